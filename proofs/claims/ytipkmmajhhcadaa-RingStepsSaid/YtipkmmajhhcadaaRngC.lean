/- Package ring: the walk of perform. -/
import Derived.Test.YtipkmmajhhcadaaRngB
namespace Go.Proofs.Ytipkmmajhhcadaa
open Go.RowKit

theorem not_inv (x : Int) : bits .xor .i64 (-1) x = invR x := by
  show IntKind.i64.wrap ((BitVec.ofInt 64 (-1) ^^^ BitVec.ofInt 64 x).toNat : Int) = IntKind.i64.wrap (-1 - x)
  have h1 : BitVec.ofInt 64 (-1) = BitVec.allOnes 64 := by decide
  rw [h1, BitVec.allOnes_xor, BitVec.toNat_not, BitVec.toNat_ofInt]
  simp [IntKind.wrap, IntKind.bits, IntKind.signed]
  omega
theorem que_block {α : Type} {S : Shape α} {w : World} {base g off n cap : Nat} {e : TypeId} {l : List α} (h : Que S w base e (.slice (some ⟨g, off, none⟩) n cap) n l) : ∃ cs, w.heap[g]? = some (.cells cs e (0, 0)) := by
  rcases h.2 with ⟨h2, _⟩ | ⟨g', off', cap', cur, hv, hg, hh, _⟩
  · cases h2
  · simp only [Value.slice.injEq, Option.some.injEq, Addr.mk.injEq, and_true, true_and] at hv
    obtain ⟨⟨rfl, _⟩, _⟩ := hv
    exact ⟨cur, hh⟩
theorem que_froz {α : Type} {S : Shape α} {w : World} {base g off n cap : Nat} {e : TypeId} {l : List α} (h : Que S w base e (.slice (some ⟨g, off, none⟩) n cap) n l) (i : Nat) : w.frozen? ⟨g, i, none⟩ = false := by
  obtain ⟨cs, hc⟩ := que_block h
  exact frozen_of_row w g i _ _ hc
theorem grown_set {w X : World} {r : Option Nat} (h : w.grownBy X r) {b : Nat} (hb : w.heap.size ≤ b ∨ r = some b) (i : Nat) (u : Value) : w.grownBy (X.setCell ⟨b, i, none⟩ u) r := by
  have h0 : Below 0 X (X.setCell ⟨b, i, none⟩ u) := (Below.refl 0 X).setCell (Nat.zero_le _) u
  refine ⟨h0.os.trans h.os, h0.tape.trans h.tape, h0.output.trans h.output, Nat.le_trans h.size h0.size, fun k hk hne => ?_⟩
  rw [Below.heap_setCell X ⟨b, i, none⟩ u k (fun e => by
    simp only at e
    rcases hb with hb | hb
    · omega
    · exact hne (by rw [hb, e])), h.block k hk hne]
theorem grown_four {w X : World} {r : Option Nat} (h : w.grownBy X r) {b : Nat} (hb : w.heap.size ≤ b ∨ r = some b) (x y z u : Value) : w.grownBy ((((X.setCell ⟨b, 0, none⟩ x).setCell ⟨b, 1, none⟩ y).setCell ⟨b, 2, none⟩ z).setCell ⟨b, 3, none⟩ u) r :=
  grown_set (grown_set (grown_set (grown_set h hb 0 x) hb 1 y) hb 2 z) hb 3 u
theorem que_four {w : World} {base n : Nat} {e : TypeId} {v : Value} {l : List CeR} (h : Que shCe w base e v n l) {b : Nat} (ha : ∀ g, v.ownBlock = some g → g ≠ b) (x y z u : Value) : Que shCe ((((w.setCell ⟨b, 0, none⟩ x).setCell ⟨b, 1, none⟩ y).setCell ⟨b, 2, none⟩ z).setCell ⟨b, 3, none⟩ u) base e v n l :=
  que_set (a := ⟨b, 3, none⟩) (que_set (a := ⟨b, 2, none⟩) (que_set (a := ⟨b, 1, none⟩) (que_set (a := ⟨b, 0, none⟩) h ha x) ha y) ha z) ha u
/-- The boxes of perform; the row of cells. -/
structure Pf (w X : World) (base B off cap n : Nat) (cs : List CeR) (g t k kd d : Int) : Prop where
  e : w.grownBy X (some B)
  r : X.heap[w.heap.size]? = some (.cells #[.slice (some ⟨B, off, none⟩) n cap, .int .i64 g, .int .i64 t, .int .i64 k] tR (0, 0))
  o : X.heap[w.heap.size + 1]? = some (.cells #[.int .i64 kd, .int .i64 d] tP (0, 0))
  z : X.heap[w.heap.size + 1 + 1]? = some (.cells #[.slice none 0 0, .int .i64 0, .int .i64 0, .int .i64 0] tR (0, 0))
  q : Que shCe X base tC (.slice (some ⟨B, off, none⟩) n cap) n cs
  lt : B < w.heap.size
section
variable {w X Y : World} {base B off cap n : Nat} {cs : List CeR} {g t k kd d : Int}
theorem pf_new (h : Que shCe w base tC (.slice (some ⟨B, off, none⟩) n cap) n cs) (g t k kd d : Int) : Pf w (((w.alloc (.cells #[.slice (some ⟨B, off, none⟩) n cap, .int .i64 g, .int .i64 t, .int .i64 k] tR)).alloc (.cells #[.int .i64 kd, .int .i64 d] tP)).alloc (.cells #[.slice none 0 0, .int .i64 0, .int .i64 0, .int .i64 0] tR)) base B off cap n cs g t k kd d :=
  ⟨below_row (below_three w _ _ _) _, heap3_0 _ _ _ _, heap3_1 _ _ _ _, heap3_2 _ _ _ _, que_step h (below_three w _ _ _), (que_lt h rfl).2⟩
theorem Pf.step (h : Pf w X base B off cap n cs g t k kd d) (hb : Below X.heap.size X Y) : Pf w Y base B off cap n cs g t k kd d :=
  ⟨h.e.trans (below_row hb _), heap_step h.r hb, heap_step h.o hb, heap_step h.z hb, que_step h.q hb, h.lt⟩
/-- A cell is written. -/
theorem Pf.put (h : Pf w X base B off cap n cs g t k kd d) {i : Nat} {a : CeR} (hi : cs[i]? = some a) (c : CeR) : Pf w ((X.setCell ⟨B, off + i * 2, none⟩ (.bool c.1)).setCell ⟨B, off + i * 2 + 1, none⟩ (.int .i64 c.2)) base B off cap n (cs.set i c) g t k kd d := by
  have hl := h.lt
  have o2 : ∀ j, w.heap.size ≤ j → ((X.setCell ⟨B, off + i * 2, none⟩ (.bool c.1)).setCell ⟨B, off + i * 2 + 1, none⟩ (.int .i64 c.2)).heap[j]? = X.heap[j]? := fun j hj =>
    (Below.heap_setCell _ ⟨B, off + i * 2 + 1, none⟩ _ j (by simp only; omega)).trans (Below.heap_setCell _ ⟨B, off + i * 2, none⟩ _ j (by simp only; omega))
  exact ⟨grown_set (grown_set h.e (Or.inr rfl) _ _) (Or.inr rfl) _ _, (o2 _ (Nat.le_refl _)).trans h.r, (o2 _ (by omega)).trans h.o, (o2 _ (by omega)).trans h.z, que_cell (c := c) h.q hi, hl⟩
theorem Pf.ne (h : Pf w X base B off cap n cs g t k kd d) {b : Nat} (hb : w.heap.size ≤ b) : ∀ x, (Value.slice (some ⟨B, off, none⟩) n cap).ownBlock = some x → x ≠ b := fun x hx => by
  have hl := h.lt
  simp [Value.ownBlock] at hx
  omega
/-- An index is written. -/
theorem Pf.idx (h : Pf w X base B off cap n cs g t k kd d) (g' t' k' : Int) (i : Nat) (u : Value) (hs : (#[.slice (some ⟨B, off, none⟩) n cap, .int .i64 g, .int .i64 t, .int .i64 k] : Array Value).setIfInBounds i u = #[.slice (some ⟨B, off, none⟩) n cap, .int .i64 g', .int .i64 t', .int .i64 k']) : Pf w (X.setCell ⟨w.heap.size, i, none⟩ u) base B off cap n cs g' t' k' kd d :=
  ⟨grown_set h.e (Or.inl (Nat.le_refl _)) _ _, (heap_setCell_same X w.heap.size i _ _ u h.r).trans (by rw [hs]), (Below.heap_setCell _ ⟨w.heap.size, i, none⟩ _ _ (by simp)).trans h.o, (Below.heap_setCell _ ⟨w.heap.size, i, none⟩ _ _ (by simp; omega)).trans h.z, que_set (a := ⟨w.heap.size, i, none⟩) h.q (h.ne (Nat.le_refl _)) u, h.lt⟩
theorem Pf.cells (h : Pf w X base B off cap n cs g t k kd d) {i : Nat} {a : CeR} (hi : cs[i]? = some a) : X.cell? ⟨B, off + i * 2, none⟩ = some (.bool a.1) ∧ X.cell? ⟨B, off + i * 2 + 1, none⟩ = some (.int .i64 a.2) := by
  obtain ⟨b, f, e, _, h1, h2⟩ := at_ce (que_at h.q) hi
  simp only [Option.some.injEq, Addr.mk.injEq, and_true] at e
  obtain ⟨rfl, rfl⟩ := e
  exact ⟨h1, h2⟩
end
/-- What perform answers, and leaves. -/
def PerfOut (w : World) (base B off cap n : Nat) (cs' : List CeR) (g' t' k' : Nat) (y : Int) (e : Ending) (w' : World) : Prop :=
  e = .returned (.tuple #[.agg #[.slice (some ⟨B, off, none⟩) n cap, .int .i64 (g' : Nat), .int .i64 (t' : Nat), .int .i64 (k' : Nat)], .int .i64 y]) ∧ Que shCe w' base tC (.slice (some ⟨B, off, none⟩) n cap) n cs' ∧ w.grownBy w' (some B)
set_option maxHeartbeats 4000000 in
set_option maxRecDepth 100000 in
theorem perf_give {base B off cap n : Nat} {cs : List CeR} (w : World) (H : Hid (Que shCe w base tC (.slice (some ⟨B, off, none⟩) n cap) n cs)) (g t k : Nat) (d : Int) (hn : n ≤ 64) (a : CeR) (hx : g < n) (hc : Hid (cs[g]? = some a)) (q : Nat) (hq : Hid (wrR n (g + 1) = q)) : Calls Try.prog 22 #[.agg #[.slice (some ⟨B, off, none⟩) n cap, .int .i64 (g : Nat), .int .i64 (t : Nat), .int .i64 (k : Nat)], .agg #[.int .i64 1, .int .i64 d]] w (PerfOut w base B off cap n (cs.set g (true, d)) q t k 0) := by
  have P0 := Lib.hid (pf_new H.out (g : Nat) (t : Nat) (k : Nat) 1 d)
  go_enter Try.func22, Try.ntmps22
  go_upto_region 1 with fail
  generalize ((w.alloc (.cells #[.slice (some ⟨B, off, none⟩) n cap, .int .i64 (g : Nat), .int .i64 (t : Nat), .int .i64 (k : Nat)] 24)).alloc (.cells #[.int .i64 1, .int .i64 d] 26)).alloc (.cells #[.slice none 0 0, .int .i64 0, .int .i64 0, .int .i64 0] 24) = X at P0 ⊢
  have G0 := four_at P0.out.r
  have T0 := pair_at P0.out.o
  have Z0 := four_at P0.out.z
  have F0 := fun i => frozen_of_row X w.heap.size i _ _ P0.out.r
  have F2 := fun i => frozen_of_row X (w.heap.size + 1 + 1) i _ _ P0.out.z
  have FQ := fun i => que_froz P0.out.q i
  have l0 := heap_lt P0.out.r
  have l1 := heap_lt P0.out.o
  have l2 := heap_lt P0.out.z
  have lq := (que_lt P0.out.q rfl).2
  have C0 := P0.out.cells hc.out
  obtain ⟨ad, av⟩ := a
  dsimp only at C0
  go_upto_region 5 with fail
  have P1 := Lib.hid (P0.out.put (c := (true, d)) hc.out)
  dsimp only at P1
  generalize (X.setCell ⟨B, off + g * 2, none⟩ (.bool true)).setCell ⟨B, off + g * 2 + 1, none⟩ (.int .i64 d) = X1 at P1 ⊢
  clear G0 T0 Z0 F0 F2 FQ l0 l1 l2 lq C0
  have G0 := four_at P1.out.r
  have T0 := pair_at P1.out.o
  have Z0 := four_at P1.out.z
  have F0 := fun i => frozen_of_row X1 w.heap.size i _ _ P1.out.r
  have F2 := fun i => frozen_of_row X1 (w.heap.size + 1 + 1) i _ _ P1.out.z
  have FQ := fun i => que_froz P1.out.q i
  have l0 := heap_lt P1.out.r
  have l1 := heap_lt P1.out.o
  have l2 := heap_lt P1.out.z
  have lq := (que_lt P1.out.q rfl).2
  go_upto_region 13 with (first
    | (go_at_call 26; (with_reducible refine (next_W _ _ _ _ _ _ g _ hx hn q hq).mono ?_); rintro e X2 ⟨rfl, hb⟩; have P2 := Lib.hid (P1.out.step hb); have G2 := four_at P2.out.r; have F4 := (fun i => frozen_of_row X2 w.heap.size i _ _ P2.out.r); have l4 := heap_lt P2.out.r; clear hb)
    | fail)
  have P3 := Lib.hid (P2.out.idx q t k 1 (.int .i64 (q : Nat)) rfl)
  generalize X2.setCell ⟨w.heap.size, 1, none⟩ (.int .i64 (q : Nat)) = X3 at P3 ⊢
  clear G0 T0 Z0 F0 F2 FQ l0 l1 l2 lq G2 F4 l4
  have G0 := four_at P3.out.r
  have T0 := pair_at P3.out.o
  have Z0 := four_at P3.out.z
  have F0 := fun i => frozen_of_row X3 w.heap.size i _ _ P3.out.r
  have F2 := fun i => frozen_of_row X3 (w.heap.size + 1 + 1) i _ _ P3.out.z
  have FQ := fun i => que_froz P3.out.q i
  have l0 := heap_lt P3.out.r
  have l1 := heap_lt P3.out.o
  have l2 := heap_lt P3.out.z
  have lq := (que_lt P3.out.q rfl).2
  go_wp2_with fail
  refine bodyPost_ret (results_row_tmp1 rfl _ _ (w.heap.size + 1 + 1) 24 #[.slice (some ⟨B, off, none⟩) n cap, .int .i64 (q : Nat), .int .i64 (t : Nat), .int .i64 (k : Nat)] (0, 0) _ rfl (four_set P3.out.z) Try.underlying24 rfl size_ring) rfl ?_
  exact ⟨rfl, que_four P3.out.q (P3.out.ne (by omega)) _ _ _ _, grown_four P3.out.e (Or.inl (by omega)) _ _ _ _⟩
set_option maxHeartbeats 4000000 in
set_option maxRecDepth 100000 in
theorem perf_work {base B off cap n : Nat} {cs : List CeR} (w : World) (H : Hid (Que shCe w base tC (.slice (some ⟨B, off, none⟩) n cap) n cs)) (g t k : Nat) (d : Int) (hn : n ≤ 64) (a : CeR) (hx : k < n) (hc : Hid (cs[k]? = some a)) (q : Nat) (hq : Hid (wrR n (k + 1) = q)) : Calls Try.prog 22 #[.agg #[.slice (some ⟨B, off, none⟩) n cap, .int .i64 (g : Nat), .int .i64 (t : Nat), .int .i64 (k : Nat)], .agg #[.int .i64 2, .int .i64 d]] w (PerfOut w base B off cap n (cs.set k (false, invR a.2)) g t q 0) := by
  have P0 := Lib.hid (pf_new H.out (g : Nat) (t : Nat) (k : Nat) 2 d)
  go_enter Try.func22, Try.ntmps22
  go_upto_region 1 with fail
  generalize ((w.alloc (.cells #[.slice (some ⟨B, off, none⟩) n cap, .int .i64 (g : Nat), .int .i64 (t : Nat), .int .i64 (k : Nat)] 24)).alloc (.cells #[.int .i64 2, .int .i64 d] 26)).alloc (.cells #[.slice none 0 0, .int .i64 0, .int .i64 0, .int .i64 0] 24) = X at P0 ⊢
  have G0 := four_at P0.out.r
  have T0 := pair_at P0.out.o
  have Z0 := four_at P0.out.z
  have F0 := fun i => frozen_of_row X w.heap.size i _ _ P0.out.r
  have F2 := fun i => frozen_of_row X (w.heap.size + 1 + 1) i _ _ P0.out.z
  have FQ := fun i => que_froz P0.out.q i
  have l0 := heap_lt P0.out.r
  have l1 := heap_lt P0.out.o
  have l2 := heap_lt P0.out.z
  have lq := (que_lt P0.out.q rfl).2
  have C0 := P0.out.cells hc.out
  obtain ⟨ad, av⟩ := a
  dsimp only at C0
  have hxr : bits .xor .i64 (-1) av = invR av := not_inv av
  generalize hI : invR av = iv at hxr ⊢
  go_upto_region 7 with fail
  have P1 := Lib.hid ((P0.out.put (c := (false, iv)) hc.out).step (Below.refl _ _).drew)
  dsimp only at P1
  go_cut [39] from 26 to 39 (fun v wy => v = .pointer (some ⟨B, off + k * 2, none⟩) ∧ Hid (Pf w wy base B off cap n (cs.set k (false, iv)) (g : Nat) (t : Nat) (k : Nat) 2 d))
  case first =>
    go_region
    all_goals go_wp2_with fail
    all_goals go_meet
    all_goals exact ⟨rfl, P1⟩
  case rest =>
  obtain ⟨rfl, P1⟩ := hcut
  clear G0 T0 Z0 F0 F2 FQ l0 l1 l2 lq C0
  have G0 := four_at P1.out.r
  have T0 := pair_at P1.out.o
  have Z0 := four_at P1.out.z
  have F0 := fun i => frozen_of_row wc w.heap.size i _ _ P1.out.r
  have F2 := fun i => frozen_of_row wc (w.heap.size + 1 + 1) i _ _ P1.out.z
  have FQ := fun i => que_froz P1.out.q i
  have l0 := heap_lt P1.out.r
  have l1 := heap_lt P1.out.o
  have l2 := heap_lt P1.out.z
  have lq := (que_lt P1.out.q rfl).2
  go_upto_region 13 with (first
    | (go_at_call 26; (with_reducible refine (next_W _ _ _ _ _ _ k _ hx hn q hq).mono ?_); rintro e X2 ⟨rfl, hb⟩; have P2 := Lib.hid (P1.out.step hb); have G2 := four_at P2.out.r; have F4 := (fun i => frozen_of_row X2 w.heap.size i _ _ P2.out.r); have l4 := heap_lt P2.out.r; clear hb)
    | fail)
  have P3 := Lib.hid (P2.out.idx g t q 3 (.int .i64 (q : Nat)) rfl)
  generalize X2.setCell ⟨w.heap.size, 3, none⟩ (.int .i64 (q : Nat)) = X3 at P3 ⊢
  clear G0 T0 Z0 F0 F2 FQ l0 l1 l2 lq G2 F4 l4
  have G0 := four_at P3.out.r
  have T0 := pair_at P3.out.o
  have Z0 := four_at P3.out.z
  have F0 := fun i => frozen_of_row X3 w.heap.size i _ _ P3.out.r
  have F2 := fun i => frozen_of_row X3 (w.heap.size + 1 + 1) i _ _ P3.out.z
  have FQ := fun i => que_froz P3.out.q i
  have l0 := heap_lt P3.out.r
  have l1 := heap_lt P3.out.o
  have l2 := heap_lt P3.out.z
  have lq := (que_lt P3.out.q rfl).2
  go_wp2_with fail
  refine bodyPost_ret (results_row_tmp1 rfl _ _ (w.heap.size + 1 + 1) 24 #[.slice (some ⟨B, off, none⟩) n cap, .int .i64 (g : Nat), .int .i64 (t : Nat), .int .i64 (q : Nat)] (0, 0) _ rfl (four_set P3.out.z) Try.underlying24 rfl size_ring) rfl ?_
  exact ⟨rfl, que_four P3.out.q (P3.out.ne (by omega)) _ _ _ _, grown_four P3.out.e (Or.inl (by omega)) _ _ _ _⟩
set_option maxHeartbeats 4000000 in
set_option maxRecDepth 100000 in
theorem perf_take {base B off cap n : Nat} {cs : List CeR} (w : World) (H : Hid (Que shCe w base tC (.slice (some ⟨B, off, none⟩) n cap) n cs)) (g t k : Nat) (d : Int) (hn : n ≤ 64) (a : CeR) (hx : t < n) (hc : Hid (cs[t]? = some a)) (q : Nat) (hq : Hid (wrR n (t + 1) = q)) : Calls Try.prog 22 #[.agg #[.slice (some ⟨B, off, none⟩) n cap, .int .i64 (g : Nat), .int .i64 (t : Nat), .int .i64 (k : Nat)], .agg #[.int .i64 3, .int .i64 d]] w (PerfOut w base B off cap n (cs.set t (false, 0)) g q k a.2) := by
  have P0 := Lib.hid (pf_new H.out (g : Nat) (t : Nat) (k : Nat) 3 d)
  go_enter Try.func22, Try.ntmps22
  go_upto_region 1 with fail
  generalize ((w.alloc (.cells #[.slice (some ⟨B, off, none⟩) n cap, .int .i64 (g : Nat), .int .i64 (t : Nat), .int .i64 (k : Nat)] 24)).alloc (.cells #[.int .i64 3, .int .i64 d] 26)).alloc (.cells #[.slice none 0 0, .int .i64 0, .int .i64 0, .int .i64 0] 24) = X at P0 ⊢
  have G0 := four_at P0.out.r
  have T0 := pair_at P0.out.o
  have Z0 := four_at P0.out.z
  have F0 := fun i => frozen_of_row X w.heap.size i _ _ P0.out.r
  have F2 := fun i => frozen_of_row X (w.heap.size + 1 + 1) i _ _ P0.out.z
  have FQ := fun i => que_froz P0.out.q i
  have l0 := heap_lt P0.out.r
  have l1 := heap_lt P0.out.o
  have l2 := heap_lt P0.out.z
  have lq := (que_lt P0.out.q rfl).2
  have C0 := P0.out.cells hc.out
  obtain ⟨ad, av⟩ := a
  dsimp only at C0
  go_upto_region 12 with fail
  have P1 := Lib.hid (P0.out.put (c := (false, 0)) hc.out)
  dsimp only at P1
  generalize (X.setCell ⟨B, off + t * 2, none⟩ (.bool false)).setCell ⟨B, off + t * 2 + 1, none⟩ (.int .i64 0) = X1 at P1 ⊢
  clear G0 T0 Z0 F0 F2 FQ l0 l1 l2 lq C0
  have G0 := four_at P1.out.r
  have T0 := pair_at P1.out.o
  have Z0 := four_at P1.out.z
  have F0 := fun i => frozen_of_row X1 w.heap.size i _ _ P1.out.r
  have F2 := fun i => frozen_of_row X1 (w.heap.size + 1 + 1) i _ _ P1.out.z
  have FQ := fun i => que_froz P1.out.q i
  have l0 := heap_lt P1.out.r
  have l1 := heap_lt P1.out.o
  have l2 := heap_lt P1.out.z
  have lq := (que_lt P1.out.q rfl).2
  go_upto_region 13 with (first
    | (go_at_call 26; (with_reducible refine (next_W _ _ _ _ _ _ t _ hx hn q hq).mono ?_); rintro e X2 ⟨rfl, hb⟩; have P2 := Lib.hid (P1.out.step hb); have G2 := four_at P2.out.r; have F4 := (fun i => frozen_of_row X2 w.heap.size i _ _ P2.out.r); have l4 := heap_lt P2.out.r; clear hb)
    | fail)
  have P3 := Lib.hid (P2.out.idx g q k 2 (.int .i64 (q : Nat)) rfl)
  generalize X2.setCell ⟨w.heap.size, 2, none⟩ (.int .i64 (q : Nat)) = X3 at P3 ⊢
  clear G0 T0 Z0 F0 F2 FQ l0 l1 l2 lq G2 F4 l4
  have G0 := four_at P3.out.r
  have T0 := pair_at P3.out.o
  have Z0 := four_at P3.out.z
  have F0 := fun i => frozen_of_row X3 w.heap.size i _ _ P3.out.r
  have F2 := fun i => frozen_of_row X3 (w.heap.size + 1 + 1) i _ _ P3.out.z
  have FQ := fun i => que_froz P3.out.q i
  have l0 := heap_lt P3.out.r
  have l1 := heap_lt P3.out.o
  have l2 := heap_lt P3.out.z
  have lq := (que_lt P3.out.q rfl).2
  go_wp2_with fail
  refine bodyPost_ret (results_row_tmp1 rfl _ _ (w.heap.size + 1 + 1) 24 #[.slice (some ⟨B, off, none⟩) n cap, .int .i64 (g : Nat), .int .i64 (q : Nat), .int .i64 (k : Nat)] (0, 0) _ rfl (four_set P3.out.z) Try.underlying24 rfl size_ring) rfl ?_
  exact ⟨rfl, que_four P3.out.q (P3.out.ne (by omega)) _ _ _ _, grown_four P3.out.e (Or.inl (by omega)) _ _ _ _⟩
end Go.Proofs.Ytipkmmajhhcadaa
