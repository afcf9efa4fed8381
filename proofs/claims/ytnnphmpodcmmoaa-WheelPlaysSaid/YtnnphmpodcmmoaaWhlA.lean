/- Package wheel in memory: operations, what fired, maps from Ids to ticks. -/
import Derived.Test.YtnnphmpodcmmoaaWhlP
import Derived.Test.YtnnphmpodcmmoaaNum
import Derived.StillTailTactics
import Derived.Maps.OwnSet
import Derived.Maps.RangeWalk
namespace Go.Proofs.Ytnnphmpodcmmoaa
open Go.RowKit Go.Maps

def shT : Shape TmT := ⟨3, fun r => [.int .i64 r.k, .int .i64 r.i, .int .i64 r.n], fun _ => rfl, fun _ u hu => by simp at hu; rcases hu with rfl | rfl | rfl <;> rfl, by decide⟩
def shF : Shape FiT := ⟨2, fun r => [.int .i64 (r.1 : Int), .int .i64 r.2], fun _ => rfl, fun _ u hu => by simp at hu; rcases hu with rfl | rfl <;> rfl, by decide⟩
theorem info_tm : (Try.prog.info? 36).map (fun i => (i.zero, i.size, i.bytes)) = some (some (.agg #[.int .i64 0, .int .i64 0, .int .i64 0]), 3, 24) := by kernel_rfl
theorem info_fi : (Try.prog.info? 31).map (fun i => (i.zero, i.size, i.bytes)) = some (some (.agg #[.int .i64 0, .int .i64 0]), 2, 16) := by kernel_rfl
theorem at_tm {w : World} {ad : Option Addr} {cap k : Nat} {l : List TmT} {f : TmT} (h : shT.At w ad cap l) (hk : l[k]? = some f) : ∃ b off, ad = some ⟨b, off, none⟩ ∧ b < w.heap.size ∧ w.cell? ⟨b, off + k * 3, none⟩ = some (.int .i64 f.k) ∧ w.cell? ⟨b, off + k * 3 + 1, none⟩ = some (.int .i64 f.i) ∧ w.cell? ⟨b, off + k * 3 + 2, none⟩ = some (.int .i64 f.n) := by
  have hkl := (List.getElem?_eq_some_iff.1 hk).1
  obtain ⟨b, off, e, hb, hl⟩ := h.2 (by omega)
  have h0 := shT.flat_at l k 0 f hk (by decide)
  have h1 := shT.flat_at l k 1 f hk (by decide)
  have h2 := shT.flat_at l k 2 f hk (by decide)
  have hs : shT.size = 3 := rfl
  rw [hs] at h0 h1 h2 hl
  refine ⟨b, off, e, hb, ?_, ?_, ?_⟩
  · rw [show off + k * 3 = off + (k * 3 + 0) from rfl, hl _ (by omega), h0]; rfl
  · rw [Nat.add_assoc, hl _ (by omega), h1]; rfl
  · rw [Nat.add_assoc, hl _ (by omega), h2]; rfl
theorem at_fi {w : World} {ad : Option Addr} {cap k : Nat} {l : List FiT} {f : FiT} (h : shF.At w ad cap l) (hk : l[k]? = some f) : ∃ b off, ad = some ⟨b, off, none⟩ ∧ b < w.heap.size ∧ w.cell? ⟨b, off + k * 2, none⟩ = some (.int .i64 (f.1 : Int)) ∧ w.cell? ⟨b, off + k * 2 + 1, none⟩ = some (.int .i64 f.2) := by
  have hkl := (List.getElem?_eq_some_iff.1 hk).1
  obtain ⟨b, off, e, hb, hl⟩ := h.2 (by omega)
  have h0 := shF.flat_at l k 0 f hk (by decide)
  have h1 := shF.flat_at l k 1 f hk (by decide)
  have hs : shF.size = 2 := rfl
  rw [hs] at h0 h1 hl
  refine ⟨b, off, e, hb, ?_, ?_⟩
  · rw [show off + k * 2 = off + (k * 2 + 0) from rfl, hl _ (by omega), h0]; rfl
  · rw [Nat.add_assoc, hl _ (by omega), h1]; rfl
def WfI (x : Int) : Prop := (Lit.int .i64 x).wf = true
set_option maxHeartbeats 1000000 in
set_option maxRecDepth 100000 in
theorem within_C (n first last : Int) (w : World) (b : Bool) (hb : Hid (decide (first ≤ n ∧ n ≤ last) = b)) :
    Calls Try.prog 24 #[.int .i64 n, .int .i64 first, .int .i64 last] w fun e w' => e = .returned (.bool b) ∧ w = w' := by
  by_cases h0 : first ≤ n
  · have g0 : decide (first ≤ n) = true := decide_eq_true h0
    have HE : Hid (decide (n ≤ last) = b) := Lib.hid (by rw [← hb.out]; simp [h0])
    go_enter Try.func24, Try.ntmps24
    go_wp2_with fail
    go_ret
    exact ⟨by rw [← HE.out]; simp, rfl⟩
  · have g0 : decide (first ≤ n) = false := decide_eq_false h0
    have HE : Hid (false = b) := Lib.hid (by rw [← hb.out]; simp [h0])
    go_enter Try.func24, Try.ntmps24
    go_wp2_with fail
    go_ret
    exact ⟨by rw [← HE.out]; simp, rfl⟩
theorem lawI : Keyed Try.prog 3 := int_keyed Try.underlying3
theorem zeroI (w : World) : (zeroValue 3).run Try.prog w = .ok (.int .i64 0) w := by kernel_rfl
abbrev Dt := DataW Unit
/-- A map's reading tells the timers. -/
structure TellsL (D : Dt) (l : List FiT) : Prop where
  has : ∀ i : Int, Maps.has D (.int .i64 i) = setQ l i
  at' : ∀ (t : Nat) (i : Int) (z : Dt), (t, i) ∈ l → D.atKey (.int .i64 i) z = .lit (.int .i64 (t : Int))
  sz : Maps.size D = l.length
theorem lit_ne {i j : Int} (h : ¬ i = j) : (Lit.int .i64 i) ≠ Lit.int .i64 j := fun e => h (by cases e; rfl)
theorem tells_empty : TellsL (.map []) [] := ⟨fun _ => rfl, (fun t i z h => by cases h), rfl⟩
theorem bool_ext {a b : Bool} (h : a = true ↔ b = true) : a = b := Bool.eq_iff_iff.2 h
theorem setQ_ins (p : FiT) (l : List FiT) (j : Int) : setQ (insT p l) j = (decide (p.2 = j) || setQ l j) := by
  refine bool_ext ?_
  rw [setQ_mem, Bool.or_eq_true, decide_eq_true_eq, setQ_mem]
  constructor
  · rintro ⟨t, ht⟩
    rcases mem_ins.1 ht with e | e
    · exact Or.inl (by rw [← e])
    · exact Or.inr ⟨t, e⟩
  · rintro (e | ⟨t, ht⟩)
    · exact ⟨p.1, mem_ins.2 (Or.inl (by rw [← e]))⟩
    · exact ⟨t, mem_ins.2 (Or.inr ht)⟩
theorem setQ_cut (i : Int) (l : List FiT) (j : Int) : setQ (cutL i l) j = (setQ l j && !decide (j = i)) := by
  refine bool_ext ?_
  rw [setQ_mem, Bool.and_eq_true, Bool.not_eq_true', decide_eq_false_iff_not, setQ_mem]
  constructor
  · rintro ⟨t, ht⟩
    obtain ⟨h1, h2⟩ := List.mem_filter.1 ht
    exact ⟨⟨t, h1⟩, by simpa using h2⟩
  · rintro ⟨⟨t, ht⟩, h⟩
    exact ⟨t, List.mem_filter.2 ⟨ht, by simpa using h⟩⟩
theorem TellsL.put {D : Dt} {i : Int} {t : Nat} {l : List FiT} (h : TellsL D l) (hD : IsMap D) (hT : Tidy D) (hq : setQ l i = false) : TellsL (D.put (.int .i64 i) (.lit (.int .i64 (t : Int)))) (insT (t, i) l) := by
  refine ⟨fun j => ?_, fun t' j z hj => ?_, ?_⟩
  · rw [setQ_ins]
    by_cases e : j = i
    · subst e
      rw [has_put_same hD (show WideAt.IsKeyLit (.int .i64 j) from trivial)]
      simp
    · rw [has_put_other (lit_ne e), h.has j, decide_eq_false (fun q => e q.symm), Bool.false_or]
  · rcases mem_ins.1 hj with e | e
    · cases e
      rw [atKey_put_same hD (show WideAt.IsKeyLit (.int .i64 i) from trivial)]
    · have hji : ¬ j = i := setQ_no hq _ e
      rw [atKey_put_other (lit_ne hji)]
      exact h.at' t' j z e
  · rw [size_put hT, h.has i, hq, h.sz, len_ins]
    rfl
theorem cut_none {i : Int} {l : List FiT} (hq : setQ l i = false) : cutL i l = l := List.filter_eq_self.2 fun p hp => by simpa using setQ_no hq p hp
theorem TellsL.del {D : Dt} {i : Int} {l : List FiT} (h : TellsL D l) (hT : Tidy D) (hn : l.Pairwise fun a b => ¬ a.2 = b.2) : TellsL (D.del (.int .i64 i)) (cutL i l) := by
  refine ⟨fun j => ?_, fun t' j z hj => ?_, ?_⟩
  · rw [setQ_cut]
    by_cases e : j = i
    · subst e
      rw [has_del_same]
      simp
    · rw [has_del_other (lit_ne e), h.has j]
      simp [e]
  · obtain ⟨h1, h2⟩ := List.mem_filter.1 hj
    have hji : ¬ j = i := by simpa using h2
    rw [atKey_del_other (lit_ne hji)]
    exact h.at' t' j z h1
  · have h1 := size_del (k := .int .i64 i) hT
    rw [h.has i, h.sz] at h1
    cases hq : setQ l i with
    | true =>
      have h2 := len_cut hn hq
      rw [hq] at h1
      simp only [if_true] at h1
      omega
    | false =>
      rw [cut_none hq]
      rw [hq] at h1
      simpa using h1
theorem TellsL.got {D : Dt} {i : Int} {t : Nat} {l : List FiT} (h : TellsL D l) (ht : (t, i) ∈ l) {c : Int} (hc : D.atKey (.int .i64 i) (.lit (.int .i64 0)) = .lit (.int .i64 c)) : (t : Int) = c := by
  rw [h.at' t i _ ht] at hc
  cases hc
  rfl
/-- Block b is a map of at most n entries that tells l. -/
def MapW (w : World) (b n : Nat) (l : List FiT) : Prop := ∃ D : Dt, w.ownsMap Try.prog 3 (plainElem Try.prog 3) b n D ∧ TellsL D l
theorem own_sameM {w w' : World} {b m : Nat} {D : Dt} {R : Value → Option (Dt × List MemPlace)} (h : w.ownsMap Try.prog 3 R b m D) (e : w'.heap[b]? = w.heap[b]?) : w'.ownsMap Try.prog 3 R b m D := by
  obtain ⟨es, clock, hb, r⟩ := h
  exact ⟨es, clock, e.trans hb, r⟩
section
variable {w w' : World} {b n : Nat} {l : List FiT}
theorem MapW.same (h : MapW w b n l) (e : w'.heap[b]? = w.heap[b]?) : MapW w' b n l := by
  obtain ⟨D, h1, h2⟩ := h
  exact ⟨D, own_sameM h1 e, h2⟩
theorem MapW.lt (h : MapW w b n l) : b < w.heap.size := by
  obtain ⟨D, h1, h2⟩ := h
  exact h1.lt
theorem MapW.step (h : MapW w b n l) (hb : Below w.heap.size w w') : MapW w' b n l := h.same (hb.block b h.lt)
theorem MapW.more (h : MapW w b n l) {n' : Nat} (hm : n ≤ n') : MapW w b n' l := by
  obtain ⟨D, h1, h2⟩ := h
  exact ⟨D, h1.mono hm, h2⟩
theorem MapW.isMap (h : MapW w b n l) : ∃ es clock, w.heap[b]? = some (.map es clock) := by
  obtain ⟨D, ⟨es, clock, hb, _⟩, _⟩ := h
  exact ⟨es, clock, hb⟩
theorem mapW_ne (h : MapW w b n l) {B t : Nat} {cs : Array Value} {fr : Nat × Nat} (hB : w.heap[B]? = some (.cells cs t fr)) : ¬ B = b := by
  obtain ⟨es, clock, hb⟩ := h.isMap
  rintro rfl
  rw [hB] at hb
  cases hb
/-- The call's own row is no map. -/
theorem own_nemapW {base e size k : Nat} {v : Value} {xs : List Value} (h : w.ownsRow base e size v k xs) (hm : MapW w b n l) : ∀ g, v.ownBlock = some g → g ≠ b := by
  intro g hg e0
  subst e0
  obtain ⟨h1, h2⟩ := h
  rcases h2 with ⟨rfl, _⟩ | ⟨g', cap, cur, hv, _, hh, r⟩
  · cases hg
  · rw [hv] at hg
    simp only [Value.ownBlock, Option.some.injEq] at hg
    subst hg
    exact mapW_ne hm hh rfl
/-- Rows of different elements lie in different blocks. -/
theorem own_two {base base' e e' size size' k k' : Nat} {v u : Value} {xs ys : List Value} (h : w.ownsRow base e size v k xs) (h' : w.ownsRow base' e' size' u k' ys) (hne : ¬ e = e') : ∀ g, v.ownBlock = some g → u.ownBlock = some g → False := by
  intro g hg hu
  obtain ⟨h1, h2⟩ := h
  rcases h2 with ⟨rfl, _⟩ | ⟨g', cap, cur, hv, _, hh, r⟩
  · cases hg
  · rw [hv] at hg
    simp only [Value.ownBlock, Option.some.injEq] at hg
    subst hg
    exact own_ne h' hh hne _ hu rfl
end
theorem map_newW (w : World) : MapW (w.alloc (.map #[] 0)) w.heap.size 0 [] := ⟨.map [], World.ownsMap_made _ _ _ _, tells_empty⟩
theorem grown_refl (w : World) (r : Option Nat) : w.grownBy w r := ⟨rfl, rfl, rfl, Nat.le_refl _, fun _ _ _ => rfl⟩
theorem grown_same {w w1 w2 : World} {r : Option Nat} (h : w.grownBy w1 r) (hb : w1.grownBy w2 r) : w.grownBy w2 r :=
  ⟨hb.os.trans h.os, hb.tape.trans h.tape, hb.output.trans h.output, Nat.le_trans h.size hb.size, fun k hk hr => (hb.block k (Nat.lt_of_lt_of_le hk h.size) hr).trans (h.block k hk hr)⟩
/-- What has no timer in it stays: cells that are neither numbers nor what fired nor the wheel. -/
structure KeepT (w w' : World) : Prop where
  sz : w.heap.size ≤ w'.heap.size
  at_ : ∀ (b : Nat) (cs : Array Value) (t : TypeId) (fr : Nat × Nat), w.heap[b]? = some (.cells cs t fr) → ¬ t = 3 → ¬ t = 31 → ¬ t = 46 → w'.heap[b]? = some (.cells cs t fr)
section
variable {w w' w'' : World}
theorem KeepT.refl (w : World) : KeepT w w := ⟨Nat.le_refl _, fun _ _ _ _ h _ _ _ => h⟩
theorem KeepT.trans (h : KeepT w w') (h' : KeepT w' w'') : KeepT w w'' := ⟨Nat.le_trans h.sz h'.sz, fun b cs t fr hb h1 h2 h3 => h'.at_ b cs t fr (h.at_ b cs t fr hb h1 h2 h3) h1 h2 h3⟩
theorem keep_below (hb : Below w.heap.size w w') : KeepT w w' := ⟨hb.size, fun _ _ _ _ h _ _ _ => heap_step h hb⟩
theorem keep_turn {m L : Nat} {set : List FiT} (h : MapW w m L set) (hg : w.grownBy w' (some m)) : KeepT w w' :=
  ⟨hg.size, fun b _ _ _ hb _ _ _ => (hg.block b (heap_lt hb) (fun e => mapW_ne h hb (Option.some.inj e))).trans hb⟩
theorem keep_int {base size n : Nat} {v : Value} {xs : List Value} (h : w.ownsRow base 3 size v n xs) (hg : w.grownBy w' v.ownBlock) : KeepT w w' :=
  ⟨hg.size, fun b _ _ _ hb h1 _ _ => (hg.block b (heap_lt hb) (fun e => own_ne h hb h1 b e.symm rfl)).trans hb⟩
theorem keep_fired {base size n : Nat} {v : Value} {xs : List Value} (h : w.ownsRow base 31 size v n xs) (hg : w.grownBy w' v.ownBlock) : KeepT w w' :=
  ⟨hg.size, fun b _ _ _ hb _ h2 _ => (hg.block b (heap_lt hb) (fun e => own_ne h hb h2 b e.symm rfl)).trans hb⟩
theorem keep_set {B i : Nat} {R : Array Value} {u : Value} {fr : Nat × Nat} (h : w.heap[B]? = some (.cells R 46 fr)) : KeepT w (w.setCell ⟨B, i, none⟩ u) :=
  ⟨by simp, fun b cs t fr' hb _ _ h3 => (Below.heap_setCell w ⟨B, i, none⟩ u b (fun e => by
    simp only at e
    subst e
    rw [h] at hb
    simp only [Option.some.injEq, Obj.cells.injEq] at hb
    exact h3 hb.2.1.symm)).trans hb⟩
end
/-- The wheel: a row of 514 cells in a block of the call's own, and what they lead to. -/
structure WhR (w0 w : World) (B m L now : Nat) (set : List FiT) (sl : Nat → List Int) (fd : List FiT) (R : Array Value) : Prop where
  b : Below w0.heap.size w0 w
  hB : w0.heap.size ≤ B
  hm : w0.heap.size ≤ m
  hp : w.heap[B]? = some (.cells R 46 (0, 0))
  sz : R.size = 514
  c0 : R[0]? = some (.int .i64 (now : Int))
  cm : R[512]? = some (.map (some m))
  mp : MapW w m L set
  fi : ∃ v, R[513]? = some v ∧ w.ownsRow w0.heap.size 31 2 v fd.length (shF.flat fd)
  sl : ∀ j, j < 511 → ∃ v, R[1 + j]? = some v ∧ w.ownsRow w0.heap.size 3 1 v (sl j).length (shI.flat (sl j))
  ap : ∀ j k v u g, j < 511 → k < 511 → R[1 + j]? = some v → R[1 + k]? = some u → v.ownBlock = some g → u.ownBlock = some g → j = k
section
variable {w0 w w' : World} {B m L now : Nat} {set : List FiT} {sl : Nat → List Int} {fd : List FiT} {R : Array Value}
theorem WhR.step (h : WhR w0 w B m L now set sl fd R) (hb : Below w.heap.size w w') : WhR w0 w' B m L now set sl fd R :=
  ⟨pstep h.b hb, h.hB, h.hm, heap_step h.hp hb, h.sz, h.c0, h.cm, h.mp.step hb,
    (by obtain ⟨v, h1, h2⟩ := h.fi; exact ⟨v, h1, own_step h2 hb⟩),
    (fun j hj => by obtain ⟨v, h1, h2⟩ := h.sl j hj; exact ⟨v, h1, own_step h2 hb⟩), h.ap⟩
theorem WhR.more (h : WhR w0 w B m L now set sl fd R) {L' : Nat} (hL : L ≤ L') : WhR w0 w B m L' now set sl fd R :=
  ⟨h.b, h.hB, h.hm, h.hp, h.sz, h.c0, h.cm, h.mp.more hL, h.fi, h.sl, h.ap⟩
theorem WhR.same (h : WhR w0 w B m L now set sl fd R) {sl' : Nat → List Int} (hs : ∀ j, j < 511 → sl' j = sl j) : WhR w0 w B m L now set sl' fd R :=
  ⟨h.b, h.hB, h.hm, h.hp, h.sz, h.c0, h.cm, h.mp, h.fi, (fun j hj => by rw [hs j hj]; exact h.sl j hj), h.ap⟩
theorem WhR.cell (h : WhR w0 w B m L now set sl fd R) {i : Nat} {v : Value} (hi : R[i]? = some v) : w.cell? ⟨B, i, none⟩ = some v := by
  rw [cell_of_row w B i _ _ _ h.hp]; exact hi
theorem WhR.froz (h : WhR w0 w B m L now set sl fd R) (i : Nat) : w.frozen? ⟨B, i, none⟩ = false := frozen_of_row w B i R _ h.hp
theorem WhR.lt (h : WhR w0 w B m L now set sl fd R) : B < w.heap.size := heap_lt h.hp
/-- What the fields say, for the walk. -/
theorem WhR.read (h : WhR w0 w B m L now set sl fd R) : w.cell? ⟨B, 0, none⟩ = some (.int .i64 (now : Int)) ∧ w.cell? ⟨B, 512, none⟩ = some (.map (some m)) ∧ B < w.heap.size ∧ ∀ i, w.frozen? ⟨B, i, none⟩ = false :=
  ⟨h.cell h.c0, h.cell h.cm, h.lt, h.froz⟩
/-- The map has turned. -/
theorem WhR.turn (h : WhR w0 w B m L now set sl fd R) {L' : Nat} {set' : List FiT} (hg : w.grownBy w' (some m)) (hm : MapW w' m L' set') : WhR w0 w' B m L' now set' sl fd R :=
  ⟨h.b.grown hg h.b.size (fun k hk => by cases hk; exact h.hm), h.hB, h.hm, (hg.block _ (heap_lt h.hp) (fun e => mapW_ne h.mp h.hp (Option.some.inj e))).trans h.hp, h.sz, h.c0, h.cm, hm,
    (by obtain ⟨v, h1, h2⟩ := h.fi; exact ⟨v, h1, own_heap h2 fun k _ hk ho => (hg.block k (heap_lt ho) (fun e => own_nemapW h2 h.mp k hk (Option.some.inj e))).trans ho⟩),
    (fun j hj => by obtain ⟨v, h1, h2⟩ := h.sl j hj; exact ⟨v, h1, own_heap h2 fun k _ hk ho => (hg.block k (heap_lt ho) (fun e => own_nemapW h2 h.mp k hk (Option.some.inj e))).trans ho⟩), h.ap⟩
theorem heap_setCell_B {a : Addr} {u : Value} {k : Nat} (hk : k ≠ a.block) : (w.setCell a u).heap[k]? = w.heap[k]? := Below.heap_setCell w a u k hk
/-- A slot's row has turned, and its cell. -/
theorem WhR.slot (h : WhR w0 w B m L now set sl fd R) {j n' : Nat} {v v' : Value} {l' : List Int} (hj : j < 511) (hv : R[1 + j]? = some v) (hg : w.grownBy w' v.ownBlock) (ho : w'.ownsRow w0.heap.size 3 1 v' n' (shI.flat l')) (hn : l'.length = n')
    (hv' : ∀ g, v'.ownBlock = some g → v.ownBlock = some g ∨ w.heap.size ≤ g) : WhR w0 (w'.setCell ⟨B, 1 + j, none⟩ v') B m L now set (fun k => if k = j then l' else sl k) fd (R.setIfInBounds (1 + j) v') := by
  obtain ⟨v0, hv0, hown⟩ := h.sl j hj
  obtain rfl : v0 = v := by rw [hv0] at hv; exact Option.some.inj hv
  have hB : ∀ g, v0.ownBlock = some g → g ≠ B := own_ne hown h.hp (by decide)
  have hp' : w'.heap[B]? = some (.cells R 46 (0, 0)) := (hg.block _ (heap_lt h.hp) (fun e => hB B e.symm rfl)).trans h.hp
  have hB' : ∀ g, v'.ownBlock = some g → g ≠ B := own_ne ho hp' (by decide)
  have hsz := h.sz
  have hge : ∀ i, i ≠ 1 + j → (R.setIfInBounds (1 + j) v')[i]? = R[i]? := fun i hi => Array.getElem?_setIfInBounds_ne (fun e => hi e.symm)
  refine ⟨(h.b.grown hg h.b.size (fun k hk => (own_lt hown hk).1)).trans (Below.setCell (Below.refl _ _) h.hB _), h.hB, h.hm, heap_setCell_same w' B (1 + j) R _ _ hp', by simpa using hsz, by rw [hge 0 (by omega)]; exact h.c0, by rw [hge 512 (by omega)]; exact h.cm, ?_, ?_, fun k hk => ?_, fun a c v u g ha hc hva huc hg1 hg2 => ?_⟩
  · have h1 : w'.heap[m]? = w.heap[m]? := hg.block _ h.mp.lt (fun e => own_nemapW hown h.mp m e.symm rfl)
    have hm' := h.mp.same h1
    exact hm'.same (heap_setCell_B (fun e => mapW_ne hm' hp' e.symm))
  · obtain ⟨u, hu1, hu2⟩ := h.fi
    refine ⟨u, by rw [hge 513 (by omega)]; exact hu1, ?_⟩
    have : w'.ownsRow w0.heap.size 31 2 u fd.length (shF.flat fd) := own_heap hu2 fun k _ hk ho' => (hg.block k (heap_lt ho') (fun e => own_two hown hu2 (by decide) k e.symm hk)).trans ho'
    exact own_set this (own_ne this hp' (by decide)) _
  · by_cases e : k = j
    · subst e
      refine ⟨v', ?_, ?_⟩
      · rw [Array.getElem?_setIfInBounds]
        simp
        omega
      · simp only [if_true]
        rw [hn]
        exact own_set ho hB' _
    · obtain ⟨u, hu1, hu2⟩ := h.sl k hk
      refine ⟨u, by rw [hge _ (by omega)]; exact hu1, ?_⟩
      simp only [if_neg e]
      have : w'.ownsRow w0.heap.size 3 1 u (sl k).length (shI.flat (sl k)) := own_heap hu2 fun g _ hk' ho' => (hg.block g (heap_lt ho') (fun e' => e (h.ap k j u v0 g hk hj hu1 hv0 hk' e'.symm))).trans ho'
      exact own_set this (own_ne this hp' (by decide)) _
  · have hval : ∀ x y, (R.setIfInBounds (1 + j) v')[1 + x]? = some y → (x = j ∧ y = v') ∨ (¬ x = j ∧ R[1 + x]? = some y) := fun x y hxy => by
      by_cases e : x = j
      · subst e
        refine Or.inl ⟨rfl, ?_⟩
        rw [Array.getElem?_setIfInBounds] at hxy
        rw [if_pos rfl, if_pos (by omega)] at hxy
        exact (Option.some.inj hxy).symm
      · rw [hge _ (by omega)] at hxy
        exact Or.inr ⟨e, hxy⟩
    have hlow : ∀ x y, x < 511 → R[1 + x]? = some y → y.ownBlock = some g → g < w.heap.size := fun x y hx hxy hyg => by
      obtain ⟨z, hz1, hz2⟩ := h.sl x hx
      obtain rfl : z = y := by rw [hz1] at hxy; exact Option.some.inj hxy
      exact (own_lt hz2 hyg).2
    rcases hval a v hva with ⟨rfl, rfl⟩ | ⟨ea, hra⟩
    · rcases hval c u huc with ⟨rfl, rfl⟩ | ⟨ec, hrc⟩
      · rfl
      · rcases hv' g hg1 with h1 | h1
        · exact h.ap _ _ _ _ g ha hc hv0 hrc h1 hg2
        · have := hlow c u hc hrc hg2
          omega
    · rcases hval c u huc with ⟨rfl, rfl⟩ | ⟨ec, hrc⟩
      · rcases hv' g hg2 with h1 | h1
        · exact h.ap _ _ _ _ g ha hc hra hv0 hg1 h1
        · have := hlow a v ha hra hg1
          omega
      · exact h.ap _ _ _ _ g ha hc hra hrc hg1 hg2
/-- What fired has turned, and its cell. -/
theorem WhR.fire (h : WhR w0 w B m L now set sl fd R) {n' : Nat} {v v' : Value} {l' : List FiT} (hv : R[513]? = some v) (hg : w.grownBy w' v.ownBlock) (ho : w'.ownsRow w0.heap.size 31 2 v' n' (shF.flat l')) (hn : l'.length = n') : WhR w0 (w'.setCell ⟨B, 513, none⟩ v') B m L now set sl l' (R.setIfInBounds 513 v') := by
  obtain ⟨v0, hv0, hown⟩ := h.fi
  obtain rfl : v0 = v := by rw [hv0] at hv; exact Option.some.inj hv
  have hB : ∀ g, v0.ownBlock = some g → g ≠ B := own_ne hown h.hp (by decide)
  have hp' : w'.heap[B]? = some (.cells R 46 (0, 0)) := (hg.block _ (heap_lt h.hp) (fun e => hB B e.symm rfl)).trans h.hp
  have hB' : ∀ g, v'.ownBlock = some g → g ≠ B := own_ne ho hp' (by decide)
  have hsz := h.sz
  have hge : ∀ i, i ≠ 513 → (R.setIfInBounds 513 v')[i]? = R[i]? := fun i hi => Array.getElem?_setIfInBounds_ne (fun e => hi e.symm)
  refine ⟨(h.b.grown hg h.b.size (fun k hk => (own_lt hown hk).1)).trans (Below.setCell (Below.refl _ _) h.hB _), h.hB, h.hm, heap_setCell_same w' B 513 R _ _ hp', by simpa using hsz, by rw [hge 0 (by omega)]; exact h.c0, by rw [hge 512 (by omega)]; exact h.cm, ?_, ?_, fun k hk => ?_, fun a c v u g ha hc hva huc hg1 hg2 => ?_⟩
  · have h1 : w'.heap[m]? = w.heap[m]? := hg.block _ h.mp.lt (fun e => own_nemapW hown h.mp m e.symm rfl)
    have hm' := h.mp.same h1
    exact hm'.same (heap_setCell_B (fun e => mapW_ne hm' hp' e.symm))
  · refine ⟨v', ?_, ?_⟩
    · rw [Array.getElem?_setIfInBounds]
      simp
      omega
    · rw [hn]
      exact own_set ho hB' _
  · obtain ⟨u, hu1, hu2⟩ := h.sl k hk
    refine ⟨u, by rw [hge _ (by omega)]; exact hu1, ?_⟩
    have : w'.ownsRow w0.heap.size 3 1 u (sl k).length (shI.flat (sl k)) := own_heap hu2 fun g _ hk' ho' => (hg.block g (heap_lt ho') (fun e' => own_two hown hu2 (by decide) g e'.symm hk')).trans ho'
    exact own_set this (own_ne this hp' (by decide)) _
  · rw [hge _ (by omega)] at hva huc
    exact h.ap _ _ _ _ g ha hc hva huc hg1 hg2
/-- The clock's cell. -/
theorem WhR.clock (h : WhR w0 w B m L now set sl fd R) (t : Nat) : WhR w0 (w.setCell ⟨B, 0, none⟩ (.int .i64 (t : Int))) B m L t set sl fd (R.setIfInBounds 0 (.int .i64 (t : Int))) := by
  have hsz := h.sz
  have hge : ∀ i, i ≠ 0 → (R.setIfInBounds 0 (.int .i64 (t : Int)))[i]? = R[i]? := fun i hi => Array.getElem?_setIfInBounds_ne (fun e => hi e.symm)
  refine ⟨h.b.trans (Below.setCell (Below.refl _ _) h.hB _), h.hB, h.hm, heap_setCell_same w B 0 R _ _ h.hp, by simpa using hsz, ?_, by rw [hge 512 (by omega)]; exact h.cm, h.mp.same (heap_setCell_B (fun e => mapW_ne h.mp h.hp e.symm)), ?_, fun k hk => ?_, fun a c v u g ha hc hva huc hg1 hg2 => ?_⟩
  · rw [Array.getElem?_setIfInBounds, if_pos rfl, if_pos (by omega)]
  · obtain ⟨u, hu1, hu2⟩ := h.fi
    exact ⟨u, by rw [hge 513 (by omega)]; exact hu1, own_set hu2 (own_ne hu2 h.hp (by decide)) _⟩
  · obtain ⟨u, hu1, hu2⟩ := h.sl k hk
    exact ⟨u, by rw [hge _ (by omega)]; exact hu1, own_set hu2 (own_ne hu2 h.hp (by decide)) _⟩
  · rw [hge _ (by omega)] at hva huc
    exact h.ap _ _ _ _ g ha hc hva huc hg1 hg2
/-- A slot is emptied. -/
theorem WhR.clear (h : WhR w0 w B m L now set sl fd R) {j : Nat} (hj : j < 511) : WhR w0 (w.setCell ⟨B, 1 + j, none⟩ (.slice none 0 0)) B m L now set (fun k => if k = j then [] else sl k) fd (R.setIfInBounds (1 + j) (.slice none 0 0)) := by
  obtain ⟨v0, hv0, hown⟩ := h.sl j hj
  exact h.slot hj hv0 (grown_refl _ _) (World.ownsRow_nil _ _ _ _) rfl (fun g hg => by cases hg)
end
end Go.Proofs.Ytnnphmpodcmmoaa
