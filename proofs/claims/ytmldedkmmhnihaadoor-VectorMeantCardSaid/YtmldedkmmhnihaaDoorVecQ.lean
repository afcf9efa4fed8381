/- How package vector's table lies in memory. -/
import Derived.Test.YtmldedkmmhnihaaDoorVecP
import Derived.Test.YtmldedkmmhnihaaDoorBitsL
import Derived.Test.YtmldedkmmhnihaaDoorGen
import Derived.Deep.AppendLies
import Derived.Deep.CutRange
import Derived.Laws.Rows
namespace Go.Proofs.YtmldedkmmhnihaaDoor
open Go.RowKit

theorem pstep {W w w' : World} (h : Below W.heap.size W w) (hb : Below w.heap.size w w') : Below W.heap.size W w' := h.trans (hb.mono h.size)
theorem bat' {w w1 : World} (hb : Below w.heap.size w w1) (b : Nat) (h : b < w.heap.size) : (∀ o, w1.cell? ⟨b, o, none⟩ = w.cell? ⟨b, o, none⟩) ∧ (∀ o, w1.frozen? ⟨b, o, none⟩ = w.frozen? ⟨b, o, none⟩) ∧ b < w1.heap.size :=
  ⟨fun o => hb.cell (p := ⟨b, o, none⟩) h, fun o => hb.frozen (p := ⟨b, o, none⟩) h, Nat.lt_of_lt_of_le h hb.size⟩
/-- Four words. -/
structure Q4 where
  a : Nat
  b : Nat
  c : Nat
  d : Nat
def Q4.ok (q : Q4) : Prop := Ok q.a q.b q.c q.d
def Q4.mem (q : Q4) (v : Nat) : Bool := Go.Proofs.YtmldedkmmhnihaaDoor.mem q.a q.b q.c q.d v
/-- The slots in a block of the call's own. -/
def SlotRow (w : World) (B : Nat) (l : List SlotT) : Prop := ∃ cur, w.heap[B]? = some (.cells cur 34 (0, 0)) ∧ ∀ j, j < l.length → cur[j * 2]? = some (.int .i64 ((l.getD j zs).core : Int)) ∧ cur[j * 2 + 1]? = some (.int .i64 ((l.getD j zs).vec : Int))
/-- The table's other cells. -/
def TabRow (w : World) (T B cores lines : Nat) (fr : Nat → Q4) (tk : Nat → Nat) : Prop := ∃ cur, w.heap[T]? = some (.cells cur 47 (0, 0)) ∧ cur[0]? = some (.int .i64 (cores : Int)) ∧ cur[1]? = some (.slice (some ⟨B, 0, none⟩) lines lines) ∧
  (∀ c, c < 8 → cur[2 + c * 4]? = some (.int .u64 ((fr c).a : Int)) ∧ cur[2 + c * 4 + 1]? = some (.int .u64 ((fr c).b : Int)) ∧ cur[2 + c * 4 + 2]? = some (.int .u64 ((fr c).c : Int)) ∧ cur[2 + c * 4 + 3]? = some (.int .u64 ((fr c).d : Int))) ∧
  ∀ c, c < 8 → cur[34 + c]? = some (.int .i64 (tk c : Int))
/-- What the table says of the slots. -/
def TieV (cores : Nat) (l : List SlotT) (fr : Nat → Q4) (tk : Nat → Nat) : Prop := ∀ c, c < cores → (fr c).ok ∧ (∀ v, v < 256 → (fr c).mem v = freeV l c v) ∧ tk c = cntV l c
theorem hasRoom_raw (T c : Nat) (t : Nat) (w : World) (r : Bool) (hc : c < 8) (h : w.cell? ⟨T, 34 + c, none⟩ = some (.int .i64 (t : Int))) (hr : decide ((t : Int) < 224) = r) :
    Calls Tryd.prog 24 #[.pointer (some ⟨T, 0, none⟩), .int .i64 c] w fun e w' => e = .returned (.bool r) ∧ w = w' := by
  subst hr
  go_enter Tryd.func24, Tryd.ntmps24
  go_wp2
  go_ret
  exact ⟨rfl, rfl⟩
theorem has_no (T B k n : Nat) (w : World) (hk : k < n) (h : w.cell? ⟨T, 1, none⟩ = some (.slice (some ⟨B, 0, none⟩) n n)) (h0 : w.cell? ⟨B, k * 2, none⟩ = some (.int .i64 0)) (h1 : w.cell? ⟨B, k * 2 + 1, none⟩ = some (.int .i64 0)) :
    Calls Tryd.prog 18 #[.pointer (some ⟨T, 0, none⟩), .int .i64 k] w fun e w' => e = .returned (.bool false) ∧ w = w' := by
  go_enter Tryd.func18, Tryd.ntmps18
  go_wp2
  go_ret
  exact ⟨rfl, rfl⟩
theorem has_yes (T B k n : Nat) (c v : Nat) (w : World) (hk : k < n) (hv : 0 < v) (h : w.cell? ⟨T, 1, none⟩ = some (.slice (some ⟨B, 0, none⟩) n n)) (h0 : w.cell? ⟨B, k * 2, none⟩ = some (.int .i64 (c : Int))) (h1 : w.cell? ⟨B, k * 2 + 1, none⟩ = some (.int .i64 (v : Int))) :
    Calls Tryd.prog 18 #[.pointer (some ⟨T, 0, none⟩), .int .i64 k] w fun e w' => e = .returned (.bool true) ∧ w = w' := by
  have hne : ¬ (v : Int) = 0 := by omega
  go_enter Tryd.func18, Tryd.ntmps18
  go_wp2
  go_ret
  exact ⟨rfl, rfl⟩

/-- The world at the call, and a block that is kept. -/
structure Base where
  w : World
  E : Nat
  ob : Option Obj
/-- The block that is kept. -/
def KeepE (W : Base) (T B : Nat) (w : World) : Prop := ¬ W.E = T ∧ ¬ W.E = B ∧ ∀ o, W.ob = some o → w.heap[W.E]? = some o
theorem KeepE.same {W : Base} {T B : Nat} {w w' : World} (k : KeepE W T B w) (h : ∀ o, w.heap[W.E]? = some o → w'.heap[W.E]? = some o) : KeepE W T B w' := ⟨k.1, k.2.1, fun o ho => h o (k.2.2 o ho)⟩
/-- The table and its slots, in blocks of the call's own. -/
def RawV (W : Base) (T B cores : Nat) (l : List SlotT) (fr : Nat → Q4) (tk : Nat → Nat) (w : World) : Prop :=
  Below W.w.heap.size W.w w ∧ (W.w.heap.size ≤ T ∧ W.w.heap.size ≤ B ∧ T ≠ B) ∧ SlotRow w B l ∧ TabRow w T B cores l.length fr tk ∧ KeepE W T B w
section
variable {W : Base} {w w' : World} {T B cores : Nat} {l : List SlotT} {fr : Nat → Q4} {tk : Nat → Nat}
theorem SlotRow.lt (r : SlotRow w B l) : B < w.heap.size := by
  obtain ⟨cur, hc, _⟩ := r
  exact (Array.getElem?_eq_some_iff.1 hc).1
theorem TabRow.lt {n : Nat} (r : TabRow w T B cores n fr tk) : T < w.heap.size := by
  obtain ⟨cur, hc, _⟩ := r
  exact (Array.getElem?_eq_some_iff.1 hc).1
theorem SlotRow.same (r : SlotRow w B l) (h : w'.heap[B]? = w.heap[B]?) : SlotRow w' B l := by
  obtain ⟨cur, hc, hr⟩ := r
  exact ⟨cur, by rw [h]; exact hc, hr⟩
theorem TabRow.same {n : Nat} (r : TabRow w T B cores n fr tk) (h : w'.heap[T]? = w.heap[T]?) : TabRow w' T B cores n fr tk := by
  obtain ⟨cur, hc, hr⟩ := r
  exact ⟨cur, by rw [h]; exact hc, hr⟩
theorem RawV.step (r : RawV W T B cores l fr tk w) (hb : Below w.heap.size w w') : RawV W T B cores l fr tk w' := by
  obtain ⟨h1, h2, h3, h4, h5⟩ := r
  exact ⟨pstep h1 hb, h2, h3.same (hb.block B h3.lt), h4.same (hb.block T h4.lt), h5.same fun o ho => by rw [hb.block _ (Array.getElem?_eq_some_iff.1 ho).1]; exact ho⟩
theorem RawV.alloc (r : RawV W T B cores l fr tk w) (o : Obj) : RawV W T B cores l fr tk (w.alloc o) := r.step ((Below.refl _ _).alloc (Nat.le_refl _) o)
theorem RawV.drew (r : RawV W T B cores l fr tk w) : RawV W T B cores l fr tk w.drew := ⟨r.1.drew, r.2⟩
theorem RawV.set (r : RawV W T B cores l fr tk w) {g : Nat} (hw : W.w.heap.size ≤ g) (hT : ¬ T = g) (hB : ¬ B = g) (hE : ¬ W.E = g) (i : Nat) (v : Value) : RawV W T B cores l fr tk (w.setCell ⟨g, i, none⟩ v) := by
  obtain ⟨h1, h2, h3, h4, h5⟩ := r
  exact ⟨h1.setCell (p := ⟨g, i, none⟩) hw v, h2, h3.same (heap_setCell_other _ _ _ _ (show B ≠ (⟨g, i, none⟩ : Addr).block from hB)), h4.same (heap_setCell_other _ _ _ _ (show T ≠ (⟨g, i, none⟩ : Addr).block from hT)), h5.same fun o ho => by rw [heap_setCell_other _ _ _ _ (show W.E ≠ (⟨g, i, none⟩ : Addr).block from hE)]; exact ho⟩
theorem RawV.frozenT (r : RawV W T B cores l fr tk w) (i : Nat) : w.frozen? ⟨T, i, none⟩ = false := by
  obtain ⟨cur, hc, _⟩ := r.2.2.2.1
  exact frozen_of_row w T i cur _ hc
theorem RawV.frozenB (r : RawV W T B cores l fr tk w) (i : Nat) : w.frozen? ⟨B, i, none⟩ = false := by
  obtain ⟨cur, hc, _⟩ := r.2.2.1
  exact frozen_of_row w B i cur _ hc
theorem RawV.head (r : RawV W T B cores l fr tk w) : w.cell? ⟨T, 0, none⟩ = some (.int .i64 (cores : Int)) ∧ w.cell? ⟨T, 1, none⟩ = some (.slice (some ⟨B, 0, none⟩) l.length l.length) := by
  obtain ⟨cur, hc, h0, h1, _⟩ := r.2.2.2.1
  exact ⟨by rw [cell_of_row w T 0 _ _ _ hc]; exact h0, by rw [cell_of_row w T 1 _ _ _ hc]; exact h1⟩
theorem RawV.taken (r : RawV W T B cores l fr tk w) {c : Nat} (h : c < 8) : w.cell? ⟨T, 34 + c, none⟩ = some (.int .i64 (tk c : Int)) := by
  obtain ⟨cur, hc, _, _, _, h1⟩ := r.2.2.2.1
  rw [cell_of_row w T _ _ _ _ hc]
  exact h1 c h
theorem RawV.free (r : RawV W T B cores l fr tk w) {c : Nat} (h : c < 8) : w.cell? ⟨T, 2 + c * 4, none⟩ = some (.int .u64 ((fr c).a : Int)) ∧ w.cell? ⟨T, 2 + c * 4 + 1, none⟩ = some (.int .u64 ((fr c).b : Int)) ∧ w.cell? ⟨T, 2 + c * 4 + 2, none⟩ = some (.int .u64 ((fr c).c : Int)) ∧ w.cell? ⟨T, 2 + c * 4 + 3, none⟩ = some (.int .u64 ((fr c).d : Int)) := by
  obtain ⟨cur, hc, _, _, h1, _⟩ := r.2.2.2.1
  obtain ⟨g0, g1, g2, g3⟩ := h1 c h
  exact ⟨by rw [cell_of_row w T _ _ _ _ hc]; exact g0, by rw [cell_of_row w T _ _ _ _ hc]; exact g1, by rw [cell_of_row w T _ _ _ _ hc]; exact g2, by rw [cell_of_row w T _ _ _ _ hc]; exact g3⟩
theorem RawV.slot (r : RawV W T B cores l fr tk w) {k : Nat} (h : k < l.length) : w.cell? ⟨B, k * 2, none⟩ = some (.int .i64 ((l.getD k zs).core : Int)) ∧ w.cell? ⟨B, k * 2 + 1, none⟩ = some (.int .i64 ((l.getD k zs).vec : Int)) := by
  obtain ⟨cur, hc, h1⟩ := r.2.2.1
  exact ⟨by rw [cell_of_row w B _ _ _ _ hc]; exact (h1 k h).1, by rw [cell_of_row w B _ _ _ _ hc]; exact (h1 k h).2⟩
/-- A slot is written. -/
theorem RawV.putS (r : RawV W T B cores l fr tk w) {k : Nat} (h : k < l.length) (s : SlotT) : RawV W T B cores (l.set k s) fr tk ((w.setCell ⟨B, k * 2, none⟩ (.int .i64 (s.core : Int))).setCell ⟨B, k * 2 + 1, none⟩ (.int .i64 (s.vec : Int))) := by
  obtain ⟨h1, h2, h3, h4, h5⟩ := r
  have hTB : ∀ (w : World) (i : Nat) (v : Value), (w.setCell ⟨B, i, none⟩ v).heap[T]? = w.heap[T]? := fun w i v => heap_setCell_other _ _ _ _ (show T ≠ (⟨B, i, none⟩ : Addr).block from h2.2.2)
  refine ⟨(h1.setCell (p := ⟨B, k * 2, none⟩) h2.2.1 _).setCell (p := ⟨B, k * 2 + 1, none⟩) h2.2.1 _, h2, ?_, ?_, h5.same fun o ho => by rw [heap_setCell_other _ _ _ _ (show W.E ≠ (⟨B, k * 2 + 1, none⟩ : Addr).block from h5.2.1), heap_setCell_other _ _ _ _ (show W.E ≠ (⟨B, k * 2, none⟩ : Addr).block from h5.2.1)]; exact ho⟩
  · obtain ⟨cur, hc, hi⟩ := h3
    have hs : k * 2 + 1 < cur.size := (Array.getElem?_eq_some_iff.1 (hi k h).2).1
    have g1 := heap_setCell_same w B (k * 2) cur _ (.int .i64 (s.core : Int)) hc
    have g2 := heap_setCell_same _ B (k * 2 + 1) _ _ (.int .i64 (s.vec : Int)) g1
    refine ⟨_, g2, fun j hj => ?_⟩
    simp only [List.length_set] at hj
    by_cases e : j = k
    · subst e
      have eg : (l.set j s).getD j zs = s := by simp [List.getD_eq_getElem?_getD, h]
      rw [eg]
      refine ⟨?_, ?_⟩ <;> simp [Array.getElem?_setIfInBounds] <;> omega
    · have eg : (l.set k s).getD j zs = l.getD j zs := by
        rw [List.getD_eq_getElem?_getD, List.getD_eq_getElem?_getD, List.getElem?_set_ne (fun x => e x.symm)]
      rw [eg]
      refine ⟨?_, ?_⟩
      · rw [Array.getElem?_setIfInBounds_ne (by omega), Array.getElem?_setIfInBounds_ne (by omega)]
        exact (hi j hj).1
      · rw [Array.getElem?_setIfInBounds_ne (by omega), Array.getElem?_setIfInBounds_ne (by omega)]
        exact (hi j hj).2
  · rw [List.length_set]
    exact h4.same (by rw [hTB, hTB])
/-- The words of a core are written. -/
theorem RawV.putF (r : RawV W T B cores l fr tk w) {c : Nat} (h : c < 8) (q : Q4) : RawV W T B cores l (fun d => if d = c then q else fr d) tk ((((w.setCell ⟨T, 2 + c * 4, none⟩ (.int .u64 (q.a : Int))).setCell ⟨T, 2 + c * 4 + 1, none⟩ (.int .u64 (q.b : Int))).setCell ⟨T, 2 + c * 4 + 2, none⟩ (.int .u64 (q.c : Int))).setCell ⟨T, 2 + c * 4 + 3, none⟩ (.int .u64 (q.d : Int))) := by
  obtain ⟨h1, h2, h3, h4, h5⟩ := r
  have hTB : ∀ (w : World) (i : Nat) (v : Value), (w.setCell ⟨T, i, none⟩ v).heap[B]? = w.heap[B]? := fun w i v => heap_setCell_other _ _ _ _ (show B ≠ (⟨T, i, none⟩ : Addr).block from fun e => h2.2.2 e.symm)
  have hTE : ∀ (w : World) (i : Nat) (v : Value), (w.setCell ⟨T, i, none⟩ v).heap[W.E]? = w.heap[W.E]? := fun w i v => heap_setCell_other _ _ _ _ (show W.E ≠ (⟨T, i, none⟩ : Addr).block from h5.1)
  refine ⟨?_, h2, h3.same (by rw [hTB, hTB, hTB, hTB]), ?_, h5.same fun o ho => by rw [hTE, hTE, hTE, hTE]; exact ho⟩
  · repeat (first | (with_reducible exact h1) | ((with_reducible refine Below.setCell ?_ ?_ _); rotate_left; focus (exact h2.1)))
  · obtain ⟨cur, hc, c0, c1, hf, ht⟩ := h4
    have s3 : 2 + c * 4 + 3 < cur.size := (Array.getElem?_eq_some_iff.1 (hf c h).2.2.2).1
    have g1 := heap_setCell_same w T (2 + c * 4) cur _ (.int .u64 (q.a : Int)) hc
    have g2 := heap_setCell_same _ T (2 + c * 4 + 1) _ _ (.int .u64 (q.b : Int)) g1
    have g3 := heap_setCell_same _ T (2 + c * 4 + 2) _ _ (.int .u64 (q.c : Int)) g2
    have g4 := heap_setCell_same _ T (2 + c * 4 + 3) _ _ (.int .u64 (q.d : Int)) g3
    have far : ∀ i, (i < 2 + c * 4 ∨ 2 + c * 4 + 3 < i) → ((((cur.setIfInBounds (2 + c * 4) (.int .u64 (q.a : Int))).setIfInBounds (2 + c * 4 + 1) (.int .u64 (q.b : Int))).setIfInBounds (2 + c * 4 + 2) (.int .u64 (q.c : Int))).setIfInBounds (2 + c * 4 + 3) (.int .u64 (q.d : Int)))[i]? = cur[i]? := fun i hi => by
      rw [Array.getElem?_setIfInBounds_ne (by omega), Array.getElem?_setIfInBounds_ne (by omega), Array.getElem?_setIfInBounds_ne (by omega), Array.getElem?_setIfInBounds_ne (by omega)]
    refine ⟨_, g4, by rw [far 0 (by omega)]; exact c0, by rw [far 1 (by omega)]; exact c1, fun d hd => ?_, fun d hd => by rw [far (34 + d) (by omega)]; exact ht d hd⟩
    by_cases e : d = c
    · subst e
      simp only [if_true]
      refine ⟨?_, ?_, ?_, ?_⟩ <;> simp [Array.getElem?_setIfInBounds] <;> omega
    · simp only [if_neg e]
      obtain ⟨k0, k1, k2, k3⟩ := hf d hd
      exact ⟨by rw [far _ (by omega)]; exact k0, by rw [far _ (by omega)]; exact k1, by rw [far _ (by omega)]; exact k2, by rw [far _ (by omega)]; exact k3⟩
/-- The number of a core is written. -/
theorem RawV.putT (r : RawV W T B cores l fr tk w) {c : Nat} (h : c < 8) (n : Nat) : RawV W T B cores l fr (fun d => if d = c then n else tk d) (w.setCell ⟨T, 34 + c, none⟩ (.int .i64 (n : Int))) := by
  obtain ⟨h1, h2, h3, h4, h5⟩ := r
  refine ⟨h1.setCell (p := ⟨T, 34 + c, none⟩) h2.1 _, h2, h3.same (heap_setCell_other _ _ _ _ (show B ≠ (⟨T, 34 + c, none⟩ : Addr).block from fun e => h2.2.2 e.symm)), ?_, h5.same fun o ho => by rw [heap_setCell_other _ _ _ _ (show W.E ≠ (⟨T, 34 + c, none⟩ : Addr).block from h5.1)]; exact ho⟩
  obtain ⟨cur, hc, c0, c1, hf, ht⟩ := h4
  have s3 : 34 + c < cur.size := (Array.getElem?_eq_some_iff.1 (ht c h)).1
  have g1 := heap_setCell_same w T (34 + c) cur _ (.int .i64 (n : Int)) hc
  have far : ∀ i, ¬ i = 34 + c → (cur.setIfInBounds (34 + c) (.int .i64 (n : Int)))[i]? = cur[i]? := fun i hi => by
    rw [Array.getElem?_setIfInBounds_ne (by omega)]
  refine ⟨_, g1, by rw [far 0 (by omega)]; exact c0, by rw [far 1 (by omega)]; exact c1, fun d hd => ?_, fun d hd => ?_⟩
  · obtain ⟨k0, k1, k2, k3⟩ := hf d hd
    exact ⟨by rw [far _ (by omega)]; exact k0, by rw [far _ (by omega)]; exact k1, by rw [far _ (by omega)]; exact k2, by rw [far _ (by omega)]; exact k3⟩
  · by_cases e : d = c
    · subst e
      simp only [if_true]
      simp [Array.getElem?_setIfInBounds]
      omega
    · simp only [if_neg e]
      rw [far _ (by omega)]
      exact ht d hd
end
end Go.Proofs.YtmldedkmmhnihaaDoor
