/- For corebellkeep.BitsBack: the contracts of With, Without and Has at any integer, with their results under names; sets in variables. -/
import Derived.Test.YtgddbmbljlngnaaDoorBitsJ
namespace Go.Proofs.YtgddbmbljlngnaaDoor
open Go.RowKit

def hasB (a b c d : Nat) (m : Int) : Bool := decide (0 ≤ m) && mem a b c d m.toNat

theorem has_R (a b c d : Nat) (m : Int) (t : Bool) (w : World) (h : Hid (Ok a b c d)) (ht : Hid (hasB a b c d m = t)) :
    Calls Tryd.prog 19 #[.agg #[.int .u64 a, .int .u64 b, .int .u64 c, .int .u64 d], .int .i64 m] w fun e w' => e = .returned (.bool t) ∧ Below w.heap.size w w' := by
  rw [← ht.out]
  unfold hasB
  by_cases h0 : 0 ≤ m
  · obtain ⟨n, rfl⟩ : ∃ n : Nat, m = n := ⟨m.toNat, by omega⟩
    by_cases h1 : n < 256
    · have := has_any a b c d n w h.out h1
      simpa using this
    · have := has_out a b c d (n : Int) w (by omega)
      have e : mem a b c d n = false := mem_out (by omega)
      simpa [e] using this
  · have := has_out a b c d m w (by omega)
    simpa [h0] using this
theorem with_R (a b c d p0 p1 p2 p3 : Nat) (n : Int) (w : World) (h : Hid (Ok a b c d)) (h0 : 0 ≤ n) (h1 : n < 256) (hp : Hid (up 0 n.toNat a = p0 ∧ up 1 n.toNat b = p1 ∧ up 2 n.toNat c = p2 ∧ up 3 n.toNat d = p3)) :
    Calls Tryd.prog 36 #[.agg #[.int .u64 a, .int .u64 b, .int .u64 c, .int .u64 d], .int .i64 n] w fun e w' => e = .returned (.agg #[.int .u64 p0, .int .u64 p1, .int .u64 p2, .int .u64 p3]) ∧ Below w.heap.size w w' := by
  obtain ⟨k, rfl⟩ : ∃ k : Nat, n = k := ⟨n.toNat, by omega⟩
  obtain ⟨rfl, rfl, rfl, rfl⟩ := hp.out
  exact with_any a b c d k w h.out (by omega)
theorem without_R (a b c d p0 p1 p2 p3 : Nat) (n : Int) (w : World) (h : Hid (Ok a b c d)) (h0 : 0 ≤ n) (h1 : n < 256) (hp : Hid (dn 0 n.toNat a = p0 ∧ dn 1 n.toNat b = p1 ∧ dn 2 n.toNat c = p2 ∧ dn 3 n.toNat d = p3)) :
    Calls Tryd.prog 37 #[.agg #[.int .u64 a, .int .u64 b, .int .u64 c, .int .u64 d], .int .i64 n] w fun e w' => e = .returned (.agg #[.int .u64 p0, .int .u64 p1, .int .u64 p2, .int .u64 p3]) ∧ Below w.heap.size w w' := by
  obtain ⟨k, rfl⟩ : ∃ k : Nat, n = k := ⟨n.toNat, by omega⟩
  obtain ⟨rfl, rfl, rfl, rfl⟩ := hp.out
  exact without_any a b c d k w h.out (by omega)

/-- Behind a call the cells of an old block read as before, and none is frozen that was not. -/
theorem bat {w w1 : World} (hb : Below w.heap.size w w1) (b : Nat) (h : b < w.heap.size) : (∀ o, w1.cell? ⟨b, o, none⟩ = w.cell? ⟨b, o, none⟩) ∧ (∀ o, w1.frozen? ⟨b, o, none⟩ = w.frozen? ⟨b, o, none⟩) ∧ b < w1.heap.size :=
  ⟨fun o => hb.cell (p := ⟨b, o, none⟩) h, fun o => hb.frozen (p := ⟨b, o, none⟩) h, Nat.lt_of_lt_of_le h hb.size⟩

/-- A set in a variable of its own, the first block of the call; nothing that was there has turned. -/
def One (W : World) (a0 a1 a2 a3 : Nat) (w : World) : Prop := Box w W.heap.size a0 a1 a2 a3 ∧ Below W.heap.size W w
theorem One.step {W w w' : World} {a0 a1 a2 a3 : Nat} (h : One W a0 a1 a2 a3 w) (hb : Below w.heap.size w w') : One W a0 a1 a2 a3 w' :=
  ⟨h.1.below hb h.1.lt, h.2.trans (hb.mono h.2.size)⟩
theorem One.drew {W w : World} {a0 a1 a2 a3 : Nat} (h : One W a0 a1 a2 a3 w) : One W a0 a1 a2 a3 w.drew := ⟨h.1, h.2.drew⟩
theorem One.alloc {W w : World} {a0 a1 a2 a3 : Nat} (h : One W a0 a1 a2 a3 w) (o : Obj) : One W a0 a1 a2 a3 (w.alloc o) := h.step ((Below.refl _ _).alloc (Nat.le_refl _) o)
theorem One.setCell {W w : World} {a0 a1 a2 a3 g i : Nat} (h : One W a0 a1 a2 a3 w) (hg : W.heap.size < g) (v : Value) : One W a0 a1 a2 a3 (w.setCell ⟨g, i, none⟩ v) :=
  ⟨h.1.below (M := W.heap.size + 1) ((Below.refl _ _).setCell (p := ⟨g, i, none⟩) (by show W.heap.size + 1 ≤ g; omega) v) (by omega), h.2.setCell (p := ⟨g, i, none⟩) (by show W.heap.size ≤ g; omega) v⟩
theorem one_start (W w' : World) (a0 a1 a2 a3 : Nat) (o1 : Obj) (e1 : o1 = .cells #[.int .u64 (a0 : Nat), .int .u64 (a1 : Nat), .int .u64 (a2 : Nat), .int .u64 (a3 : Nat)] 24)
    (hb : Below (W.alloc o1).heap.size (W.alloc o1) w') : One W a0 a1 a2 a3 w' := by
  subst e1
  exact ⟨Box.below (heap_alloc_new W _) hb (by simp), ((Below.refl _ _).alloc (Nat.le_refl _) _).trans (hb.mono (by simp))⟩
theorem One.all {w w' : World} {a0 a1 a2 a3 : Nat} (h : One w a0 a1 a2 a3 w') : One w a0 a1 a2 a3 w' ∧
    w'.cell? ⟨w.heap.size, 0, none⟩ = some (.int .u64 a0) ∧ w'.cell? ⟨w.heap.size, 1, none⟩ = some (.int .u64 a1) ∧ w'.cell? ⟨w.heap.size, 2, none⟩ = some (.int .u64 a2) ∧ w'.cell? ⟨w.heap.size, 3, none⟩ = some (.int .u64 a3) :=
  ⟨h, h.1.cells.1, h.1.cells.2.1, h.1.cells.2.2.1, h.1.cells.2.2.2⟩
theorem One.stepS {w w' w'' : World} {a0 a1 a2 a3 : Nat} (h : One w a0 a1 a2 a3 w' ∧
    w'.cell? ⟨w.heap.size, 0, none⟩ = some (.int .u64 a0) ∧ w'.cell? ⟨w.heap.size, 1, none⟩ = some (.int .u64 a1) ∧ w'.cell? ⟨w.heap.size, 2, none⟩ = some (.int .u64 a2) ∧ w'.cell? ⟨w.heap.size, 3, none⟩ = some (.int .u64 a3)) (hb : Below w'.heap.size w' w'') : One w a0 a1 a2 a3 w'' := h.1.step hb
/-- A set's four cells. -/
def Four (w : World) (g p0 p1 p2 p3 : Nat) : Prop := w.cell? ⟨g, 0, none⟩ = some (.int .u64 p0) ∧ w.cell? ⟨g, 1, none⟩ = some (.int .u64 p1) ∧ w.cell? ⟨g, 2, none⟩ = some (.int .u64 p2) ∧ w.cell? ⟨g, 3, none⟩ = some (.int .u64 p3)
theorem Four.step {w w' : World} {g p0 p1 p2 p3 : Nat} (h : Four w g p0 p1 p2 p3) (hb : Below w.heap.size w w') : Four w' g p0 p1 p2 p3 :=
  ⟨(hb.cell (block_lt_of_cell h.1)).trans h.1, (hb.cell (block_lt_of_cell h.2.1)).trans h.2.1, (hb.cell (block_lt_of_cell h.2.2.1)).trans h.2.2.1, (hb.cell (block_lt_of_cell h.2.2.2)).trans h.2.2.2⟩
/-- What the first statement leaves: three sets in variables. -/
def Trio (W : World) (a0 a1 a2 a3 p0 p1 p2 p3 r0 r1 r2 r3 g h : Nat) (w : World) : Prop := One W a0 a1 a2 a3 w ∧ Four w g p0 p1 p2 p3 ∧ Four w h r0 r1 r2 r3
theorem Trio.step {W w w' : World} {a0 a1 a2 a3 p0 p1 p2 p3 r0 r1 r2 r3 g h : Nat} (t : Trio W a0 a1 a2 a3 p0 p1 p2 p3 r0 r1 r2 r3 g h w) (hb : Below w.heap.size w w') : Trio W a0 a1 a2 a3 p0 p1 p2 p3 r0 r1 r2 r3 g h w' :=
  ⟨t.1.step hb, t.2.1.step hb, t.2.2.step hb⟩
theorem Trio.drew {W w : World} {a0 a1 a2 a3 p0 p1 p2 p3 r0 r1 r2 r3 g h : Nat} (t : Trio W a0 a1 a2 a3 p0 p1 p2 p3 r0 r1 r2 r3 g h w) : Trio W a0 a1 a2 a3 p0 p1 p2 p3 r0 r1 r2 r3 g h w.drew := ⟨t.1.drew, t.2.1, t.2.2⟩
theorem Trio.alloc {W w : World} {a0 a1 a2 a3 p0 p1 p2 p3 r0 r1 r2 r3 g h : Nat} (t : Trio W a0 a1 a2 a3 p0 p1 p2 p3 r0 r1 r2 r3 g h w) (o : Obj) : Trio W a0 a1 a2 a3 p0 p1 p2 p3 r0 r1 r2 r3 g h (w.alloc o) := t.step ((Below.refl _ _).alloc (Nat.le_refl _) o)
theorem Trio.all {w w' : World} {a0 a1 a2 a3 p0 p1 p2 p3 r0 r1 r2 r3 g h : Nat} (t : Trio w a0 a1 a2 a3 p0 p1 p2 p3 r0 r1 r2 r3 g h w') : Trio w a0 a1 a2 a3 p0 p1 p2 p3 r0 r1 r2 r3 g h w' ∧
    w'.cell? ⟨w.heap.size, 0, none⟩ = some (.int .u64 a0) ∧ w'.cell? ⟨w.heap.size, 1, none⟩ = some (.int .u64 a1) ∧ w'.cell? ⟨w.heap.size, 2, none⟩ = some (.int .u64 a2) ∧ w'.cell? ⟨w.heap.size, 3, none⟩ = some (.int .u64 a3) ∧
    w'.cell? ⟨g, 0, none⟩ = some (.int .u64 p0) ∧ w'.cell? ⟨g, 1, none⟩ = some (.int .u64 p1) ∧ w'.cell? ⟨g, 2, none⟩ = some (.int .u64 p2) ∧ w'.cell? ⟨g, 3, none⟩ = some (.int .u64 p3) ∧
    w'.cell? ⟨h, 0, none⟩ = some (.int .u64 r0) ∧ w'.cell? ⟨h, 1, none⟩ = some (.int .u64 r1) ∧ w'.cell? ⟨h, 2, none⟩ = some (.int .u64 r2) ∧ w'.cell? ⟨h, 3, none⟩ = some (.int .u64 r3) :=
  ⟨t, t.1.1.cells.1, t.1.1.cells.2.1, t.1.1.cells.2.2.1, t.1.1.cells.2.2.2, t.2.1.1, t.2.1.2.1, t.2.1.2.2.1, t.2.1.2.2.2, t.2.2.1, t.2.2.2.1, t.2.2.2.2.1, t.2.2.2.2.2⟩

/-- One set more. -/
def Quad (W : World) (a0 a1 a2 a3 p0 p1 p2 p3 r0 r1 r2 r3 g h k : Nat) (w : World) : Prop := Trio W a0 a1 a2 a3 p0 p1 p2 p3 r0 r1 r2 r3 g h w ∧ Four w k r0 r1 r2 r3
theorem Quad.step {W w w' : World} {a0 a1 a2 a3 p0 p1 p2 p3 r0 r1 r2 r3 g h k : Nat} (t : Quad W a0 a1 a2 a3 p0 p1 p2 p3 r0 r1 r2 r3 g h k w) (hb : Below w.heap.size w w') : Quad W a0 a1 a2 a3 p0 p1 p2 p3 r0 r1 r2 r3 g h k w' :=
  ⟨t.1.step hb, t.2.step hb⟩
theorem Quad.drew {W w : World} {a0 a1 a2 a3 p0 p1 p2 p3 r0 r1 r2 r3 g h k : Nat} (t : Quad W a0 a1 a2 a3 p0 p1 p2 p3 r0 r1 r2 r3 g h k w) : Quad W a0 a1 a2 a3 p0 p1 p2 p3 r0 r1 r2 r3 g h k w.drew := ⟨t.1.drew, t.2⟩
theorem four_new (w : World) (r0 r1 r2 r3 : Nat) (t : TypeId) : Four (w.alloc (.cells #[.int .u64 (r0 : Nat), .int .u64 (r1 : Nat), .int .u64 (r2 : Nat), .int .u64 (r3 : Nat)] t)) w.heap.size r0 r1 r2 r3 := by
  refine ⟨?_, ?_, ?_, ?_⟩ <;> (rw [World.cell?_alloc_at _ _ _ _ rfl]; rfl)
theorem Quad.all {w w' : World} {a0 a1 a2 a3 p0 p1 p2 p3 r0 r1 r2 r3 g h k : Nat} (t : Quad w a0 a1 a2 a3 p0 p1 p2 p3 r0 r1 r2 r3 g h k w') : Quad w a0 a1 a2 a3 p0 p1 p2 p3 r0 r1 r2 r3 g h k w' ∧
    w'.cell? ⟨w.heap.size, 0, none⟩ = some (.int .u64 a0) ∧ w'.cell? ⟨w.heap.size, 1, none⟩ = some (.int .u64 a1) ∧ w'.cell? ⟨w.heap.size, 2, none⟩ = some (.int .u64 a2) ∧ w'.cell? ⟨w.heap.size, 3, none⟩ = some (.int .u64 a3) ∧
    w'.cell? ⟨g, 0, none⟩ = some (.int .u64 p0) ∧ w'.cell? ⟨g, 1, none⟩ = some (.int .u64 p1) ∧ w'.cell? ⟨g, 2, none⟩ = some (.int .u64 p2) ∧ w'.cell? ⟨g, 3, none⟩ = some (.int .u64 p3) ∧
    w'.cell? ⟨h, 0, none⟩ = some (.int .u64 r0) ∧ w'.cell? ⟨h, 1, none⟩ = some (.int .u64 r1) ∧ w'.cell? ⟨h, 2, none⟩ = some (.int .u64 r2) ∧ w'.cell? ⟨h, 3, none⟩ = some (.int .u64 r3) ∧
    w'.cell? ⟨k, 0, none⟩ = some (.int .u64 r0) ∧ w'.cell? ⟨k, 1, none⟩ = some (.int .u64 r1) ∧ w'.cell? ⟨k, 2, none⟩ = some (.int .u64 r2) ∧ w'.cell? ⟨k, 3, none⟩ = some (.int .u64 r3) :=
  have b := t.1.all
  ⟨t, b.2.1, b.2.2.1, b.2.2.2.1, b.2.2.2.2.1, b.2.2.2.2.2.1, b.2.2.2.2.2.2.1, b.2.2.2.2.2.2.2.1, b.2.2.2.2.2.2.2.2.1, b.2.2.2.2.2.2.2.2.2.1, b.2.2.2.2.2.2.2.2.2.2.1, b.2.2.2.2.2.2.2.2.2.2.2.1, b.2.2.2.2.2.2.2.2.2.2.2.2, t.2.1, t.2.2.1, t.2.2.2.1, t.2.2.2.2⟩

/-! Plain: with and without undo each other. -/
theorem dn_up (k n x : Nat) (hx : x < 2 ^ 64) : dn k n (up k n x) = dn k n x := by
  apply word_ext (dn_lt (up_lt hx)) (dn_lt hx)
  intro j hj
  rw [test_dn _ _ _ _ hj, test_dn _ _ _ _ hj, test_up _ _ _ _ hj]
  cases x.testBit j <;> cases decide (64 * k + j = n) <;> rfl
theorem dn_none {a b c d n : Nat} (h : Ok a b c d) (hn : mem a b c d n = false) : dn 0 n a = a ∧ dn 1 n b = b ∧ dn 2 n c = c ∧ dn 3 n d = d := by
  apply set_ext (h.dn n) h
  intro m hm
  rw [mem_dn _ _ _ _ _ _ hm]
  by_cases e : m = n
  · subst e
    simp [hn]
  · simp [e]
theorem hasB_up {a b c d : Nat} {n m : Int} (h0 : 0 ≤ n) (h1 : n < 256) : hasB (up 0 n.toNat a) (up 1 n.toNat b) (up 2 n.toNat c) (up 3 n.toNat d) m = (hasB a b c d m || (n == m)) := by
  unfold hasB
  by_cases hm0 : 0 ≤ m
  · by_cases hm1 : m < 256
    · rw [mem_up _ _ _ _ _ _ (by omega)]
      have e : decide (m.toNat = n.toNat) = (n == m) := by
        rw [Bool.eq_iff_iff]; simp; omega
      simp [hm0, e]
    · have e : (n == m) = false := by simp; omega
      rw [mem_out (by omega), mem_out (by omega), e]; simp
  · have e : (n == m) = false := by simp; omega
    simp [hm0, e]
theorem hasB_dn {a b c d : Nat} {n m : Int} (h0 : 0 ≤ n) : hasB (dn 0 n.toNat a) (dn 1 n.toNat b) (dn 2 n.toNat c) (dn 3 n.toNat d) m = (hasB a b c d m && !(n == m)) := by
  unfold hasB
  by_cases hm0 : 0 ≤ m
  · by_cases hm1 : m < 256
    · rw [mem_dn _ _ _ _ _ _ (by omega)]
      have e : decide (m.toNat = n.toNat) = (n == m) := by
        rw [Bool.eq_iff_iff]; simp; omega
      simp [hm0, e]
    · rw [mem_out (by omega), mem_out (by omega)]; simp
  · simp [hm0]
end Go.Proofs.YtgddbmbljlngnaaDoor
