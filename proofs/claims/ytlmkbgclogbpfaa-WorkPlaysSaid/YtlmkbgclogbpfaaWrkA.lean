/- Package work in memory: operations, the queue in a block of the call's own; the walks of begin and end. -/
import Derived.Test.YtlmkbgclogbpfaaWorkP
import Derived.Test.YtlmkbgclogbpfaaQue
import Derived.Test.YtlmkbgclogbpfaaFind
import Derived.StillTailTactics
import Derived.Deep.RegionLaw
import Derived.Deep.Cut
import Derived.Deep.RegionWith
import Derived.BigQuiet
import Derived.Deep.QuietTactic
import Derived.Deep.RegionHeld3
namespace Go.Proofs.Ytlmkbgclogbpfaa
open Go.RowKit

def shO : Shape WoT := ⟨2, fun r => [.int .i64 r.k, .int .i64 r.i], fun _ => rfl, fun _ u hu => by simp at hu; rcases hu with rfl | rfl <;> rfl, by decide⟩
theorem info_wo : (Try.prog.info? 33).map (fun i => (i.zero, i.size, i.bytes)) = some (some (.agg #[.int .i64 0, .int .i64 0]), 2, 16) := by kernel_rfl
theorem at_wo {w : World} {ad : Option Addr} {cap k : Nat} {l : List WoT} {f : WoT} (h : shO.At w ad cap l) (hk : l[k]? = some f) : ∃ b off, ad = some ⟨b, off, none⟩ ∧ b < w.heap.size ∧ w.cell? ⟨b, off + k * 2, none⟩ = some (.int .i64 f.k) ∧ w.cell? ⟨b, off + k * 2 + 1, none⟩ = some (.int .i64 f.i) := by
  have hkl := (List.getElem?_eq_some_iff.1 hk).1
  obtain ⟨b, off, e, hb, hl⟩ := h.2 (by omega)
  have h0 := shO.flat_at l k 0 f hk (by decide)
  have h1 := shO.flat_at l k 1 f hk (by decide)
  have hs : shO.size = 2 := rfl
  rw [hs] at h0 h1 hl
  refine ⟨b, off, e, hb, ?_, ?_⟩
  · rw [show off + k * 2 = off + (k * 2 + 0) from rfl, hl _ (by omega), h0]; rfl
  · rw [Nat.add_assoc, hl _ (by omega), h1]; rfl
theorem grown_refl (w : World) (r : Option Nat) : w.grownBy w r := ⟨rfl, rfl, rfl, Nat.le_refl _, fun _ _ _ => rfl⟩
/-- What is neither numbers nor the queue stays. -/
structure KeepO (w w' : World) : Prop where
  sz : w.heap.size ≤ w'.heap.size
  at_ : ∀ (b : Nat) (cs : Array Value) (t : TypeId) (fr : Nat × Nat), w.heap[b]? = some (.cells cs t fr) → ¬ t = 3 → ¬ t = 41 → w'.heap[b]? = some (.cells cs t fr)
section
variable {w w' w'' : World}
theorem KeepO.refl (w : World) : KeepO w w := ⟨Nat.le_refl _, fun _ _ _ _ h _ _ => h⟩
theorem KeepO.trans (h : KeepO w w') (h' : KeepO w' w'') : KeepO w w'' := ⟨Nat.le_trans h.sz h'.sz, fun b cs t fr hb h1 h2 => h'.at_ b cs t fr (h.at_ b cs t fr hb h1 h2) h1 h2⟩
theorem keepO_below (hb : Below w.heap.size w w') : KeepO w w' := ⟨hb.size, fun _ _ _ _ h _ _ => heap_step h hb⟩
theorem keepO_que {base n : Nat} {v : Value} {l : List Int} (h : Que shI w base 3 v n l) (hg : w.grownBy w' v.ownBlock) : KeepO w w' :=
  ⟨hg.size, fun b _ _ _ hb h1 _ => (hg.block b (heap_lt hb) (fun e => que_ne h hb h1 b e.symm rfl)).trans hb⟩
theorem keepO_set {B i : Nat} {R : Array Value} {u : Value} {fr : Nat × Nat} (h : w.heap[B]? = some (.cells R 41 fr)) : KeepO w (w.setCell ⟨B, i, none⟩ u) :=
  ⟨by simp, fun b cs t fr' hb _ h3 => (Below.heap_setCell w ⟨B, i, none⟩ u b (fun e => by
    simp only at e
    subst e
    rw [h] at hb
    simp only [Option.some.injEq, Obj.cells.injEq] at hb
    exact h3 hb.2.1.symm)).trans hb⟩
end
/-- The queue: a struct of three cells in a block of the call's own, and what it leads to. -/
structure WqR (w0 w : World) (B : Nat) (s : StO) (wv dv : Value) : Prop where
  b : Below w0.heap.size w0 w
  hB : w0.heap.size ≤ B
  hp : w.heap[B]? = some (.cells #[wv, .int .i64 s.now, dv] 41 (0, 0))
  wq : Que shI w w0.heap.size 3 wv s.wait.length s.wait
  dq : Que shI w w0.heap.size 3 dv s.done.length s.done
  ap : ∀ g, wv.ownBlock = some g → dv.ownBlock = some g → False
def WqS (w0 w : World) (B : Nat) (s : StO) : Prop := ∃ wv dv, WqR w0 w B s wv dv
section
variable {w0 w w' : World} {B : Nat} {s : StO} {wv dv : Value}
theorem WqR.step (h : WqR w0 w B s wv dv) (hb : Below w.heap.size w w') : WqR w0 w' B s wv dv :=
  ⟨pstep h.b hb, h.hB, heap_step h.hp hb, que_step h.wq hb, que_step h.dq hb, h.ap⟩
theorem WqR.read (h : WqR w0 w B s wv dv) : w.cell? ⟨B, 0, none⟩ = some wv ∧ w.cell? ⟨B, 1, none⟩ = some (.int .i64 s.now) ∧ w.cell? ⟨B, 2, none⟩ = some dv ∧ B < w.heap.size := ⟨(trio_at h.hp).1, (trio_at h.hp).2.1, (trio_at h.hp).2.2, heap_lt h.hp⟩
theorem WqR.froz (h : WqR w0 w B s wv dv) (i : Nat) : w.frozen? ⟨B, i, none⟩ = false := frozen_of_row w B i _ _ h.hp
theorem WqR.neW (h : WqR w0 w B s wv dv) : ∀ g, wv.ownBlock = some g → g ≠ B := que_ne h.wq h.hp (by decide)
theorem WqR.neD (h : WqR w0 w B s wv dv) : ∀ g, dv.ownBlock = some g → g ≠ B := que_ne h.dq h.hp (by decide)
theorem WqR.bw (h : WqR w0 w B s wv dv) {w' : World} (hg : w.grownBy w' wv.ownBlock) : Below w0.heap.size w0 w' := h.b.grown hg h.b.size (fun _ hk => (que_lt h.wq hk).1)
theorem WqR.bd (h : WqR w0 w B s wv dv) {w' : World} (hg : w.grownBy w' dv.ownBlock) : Below w0.heap.size w0 w' := h.b.grown hg h.b.size (fun _ hk => (que_lt h.dq hk).1)
theorem WqR.hpW (h : WqR w0 w B s wv dv) (hg : w.grownBy w' wv.ownBlock) : w'.heap[B]? = some (.cells #[wv, .int .i64 s.now, dv] 41 (0, 0)) := (hg.block _ (heap_lt h.hp) (fun e => h.neW B e.symm rfl)).trans h.hp
theorem WqR.hpD (h : WqR w0 w B s wv dv) (hg : w.grownBy w' dv.ownBlock) : w'.heap[B]? = some (.cells #[wv, .int .i64 s.now, dv] 41 (0, 0)) := (hg.block _ (heap_lt h.hp) (fun e => h.neD B e.symm rfl)).trans h.hp
/-- What waits is another row, and is stored. -/
theorem WqR.putW (h : WqR w0 w B s wv dv) {wv' : Value} {n' : Nat} {l' : List Int} (hg : w.grownBy w' wv.ownBlock) (hq : Que shI w' w0.heap.size 3 wv' n' l') (hnew : ∀ g, wv'.ownBlock = some g → wv.ownBlock = some g ∨ g = w.heap.size) :
    WqR w0 (w'.setCell ⟨B, 0, none⟩ wv') B ⟨s.done, s.now, l'⟩ wv' dv := by
  have hn := que_len hq
  subst hn
  have hp' := h.hpW hg
  have hd : Que shI w' w0.heap.size 3 dv s.done.length s.done := que_kept h.dq hg fun g hgd e => h.ap g e.symm hgd
  refine ⟨(h.bw hg).trans (Below.setCell (Below.refl _ _) h.hB _), h.hB, heap_setCell_same w' B 0 _ _ _ hp', que_set hq (que_ne hq hp' (by decide)) _, que_set hd (que_ne hd hp' (by decide)) _, fun g hg1 hg2 => ?_⟩
  rcases hnew g hg1 with e | e
  · exact h.ap g e hg2
  · have := (que_lt h.dq hg2).2
    omega
/-- The same with what is done. -/
theorem WqR.putD (h : WqR w0 w B s wv dv) {dv' : Value} {n' : Nat} {l' : List Int} (hg : w.grownBy w' dv.ownBlock) (hq : Que shI w' w0.heap.size 3 dv' n' l') (hnew : ∀ g, dv'.ownBlock = some g → dv.ownBlock = some g ∨ g = w.heap.size) :
    WqR w0 (w'.setCell ⟨B, 2, none⟩ dv') B ⟨l', s.now, s.wait⟩ wv dv' := by
  have hn := que_len hq
  subst hn
  have hp' := h.hpD hg
  have hd : Que shI w' w0.heap.size 3 wv s.wait.length s.wait := que_kept h.wq hg fun g hgd e => h.ap g hgd e.symm
  refine ⟨(h.bd hg).trans (Below.setCell (Below.refl _ _) h.hB _), h.hB, heap_setCell_same w' B 2 _ _ _ hp', que_set hd (que_ne hd hp' (by decide)) _, que_set hq (que_ne hq hp' (by decide)) _, fun g hg1 hg2 => ?_⟩
  rcases hnew g hg2 with e | e
  · exact h.ap g hg1 e
  · have := (que_lt h.wq hg1).2
    omega
theorem WqR.setN (h : WqR w0 w B s wv dv) (x : Int) : WqR w0 (w.setCell ⟨B, 1, none⟩ (.int .i64 x)) B ⟨s.done, x, s.wait⟩ wv dv :=
  ⟨h.b.trans (Below.setCell (Below.refl _ _) h.hB _), h.hB, heap_setCell_same w B 1 _ _ _ h.hp, que_set h.wq h.neW _, que_set h.dq h.neD _, h.ap⟩
end
theorem int_lit (X : World) (x : Int) (cap : Nat) : shI.At (X.alloc (.cells #[.int .i64 x] 3)) (some ⟨X.heap.size, 0, none⟩) cap [x] :=
  Shape.At.lit (S := shI) [x] (heap_alloc_new X _)
theorem cell_hp {w : World} {B i : Nat} {R : Array Value} {t : TypeId} {u : Value} (h : w.heap[B]? = some (.cells R t (0, 0))) (hu : R[i]? = some u) : w.cell? ⟨B, i, none⟩ = some u := by
  rw [cell_of_row w B i _ _ _ h]; exact hu
/-- What a step leaves. -/
def StepQ (w0 w : World) (B : Nat) (s : StO) (e : Ending) (w' : World) : Prop := e = .returned (.tuple #[]) ∧ WqS w0 w' B s ∧ KeepO w w'
set_option maxHeartbeats 1000000 in
set_option maxRecDepth 100000 in
theorem begin_W {w0 w : World} {B : Nat} {s : StO} (H : Hid (WqS w0 w B s)) (hw : Hid (¬ s.wait = [])) :
    Calls Try.prog 23 #[.pointer (some ⟨B, 0, none⟩)] w (StepQ w0 w B (beginO s)) := by
  obtain ⟨wv, dv, h⟩ := H.out
  obtain ⟨d, c, l⟩ := s
  obtain ⟨x, r, rfl⟩ : ∃ x r, l = x :: r := by
    cases l with
    | nil => exact absurd rfl hw.out
    | cons x r => exact ⟨x, r, rfl⟩
  obtain ⟨ad, cap, rfl, hnc, hcm, hz, ha⟩ := que_shape h.wq
  simp only [List.length_cons] at hnc hz h
  have hQ := h.wq
  simp only [List.length_cons] at hQ
  obtain ⟨b, off, rfl, hbl, e0⟩ := at_int (que_at hQ) (k := 0) (x := x) rfl
  rw [Nat.add_zero] at e0
  obtain ⟨c0, c1, c2, hB⟩ := h.read
  have fz := h.froz
  obtain ⟨n, hn⟩ : ∃ n, r.length = n := ⟨_, rfl⟩
  rw [hn] at c0 hnc hQ h
  have HQ := Lib.hid hQ
  have HR := Lib.hid h
  have HN := Lib.hid hn
  have hm0 : (0 : Int) < ((n + 1 : Nat) : Int) := by omega
  have hmd : decide (0 < n + 1) = true := decide_eq_true (by omega)
  have hne := h.neW b rfl
  have K1 := Lib.hid (keepO_set (i := 1) (u := .int .i64 x) h.hp)
  have K2 : Hid (∀ v, KeepO (w.setCell ⟨B, 1, none⟩ (.int .i64 x)) ((w.setCell ⟨B, 1, none⟩ (.int .i64 x)).setCell ⟨B, 0, none⟩ v)) := Lib.hid fun v => keepO_set (h.setN x).hp
  have S1 := Lib.hid (h.setN x)
  have Q1 : Hid (Que shI (w.setCell ⟨B, 1, none⟩ (.int .i64 x)) w0.heap.size 3 (.slice (some ⟨b, off, none⟩) (n + 1) cap) (n + 1) (x :: r)) := Lib.hid (que_set hQ (que_ne hQ h.hp (by decide)) _)
  clear hw H hz ha hQ h hn
  go_enter Try.func23, Try.ntmps23
  by_cases hc1 : cap = 1
  · subst hc1
    obtain rfl : n = 0 := by omega
    obtain rfl : r = [] := List.eq_nil_of_length_eq_zero HN.out
    go_wp2_with fail
    go_end0
    exact ⟨rfl, ⟨_, dv, S1.out.putW (grown_refl _ _) (que_end Q1.out) (fun g hg => Or.inl hg)⟩, K1.out.trans (K2.out _)⟩
  · have hc2 : decide (1 = cap) = false := decide_eq_false (fun e => hc1 e.symm)
    have hc3 : 1 ≤ n + 1 := by omega
    go_wp2_with fail
    go_end0
    exact ⟨rfl, ⟨_, dv, S1.out.putW (grown_refl _ _) (que_drop Q1.out 1 hc3) (fun g hg => Or.inl hg)⟩, K1.out.trans (K2.out _)⟩
set_option maxHeartbeats 1000000 in
set_option maxRecDepth 100000 in
theorem end_W {w0 w : World} {B : Nat} {s : StO} (H : Hid (WqS w0 w B s)) (hd : s.done.length ≤ 400) :
    Calls Try.prog 24 #[.pointer (some ⟨B, 0, none⟩)] w (StepQ w0 w B (endO s)) := by
  obtain ⟨wv, dv, h⟩ := H.out
  obtain ⟨i0, hi, hz0, hz1, hz2⟩ := info_parts info_int
  obtain ⟨d, c, l⟩ := s
  obtain ⟨ad, cap, rfl, hnc, hcm, hz, ha⟩ := que_shape h.dq
  obtain ⟨m, hm⟩ : ∃ m, d.length = m := ⟨_, rfl⟩
  simp only at h hd hnc hz
  have hDQ := h.dq
  simp only at hDQ
  rw [hm] at h hd hnc hz hDQ
  obtain ⟨c0, c1, c2, hB⟩ := h.read
  have BA : Below w.heap.size w (w.alloc (.cells #[.int .i64 c] 3)).drew := (below_alloc w _).drew
  have XA := Lib.hid (h.step BA)
  have FO := Lib.hid (que_step hDQ BA)
  have LA : Hid (shI.At (w.alloc (.cells #[.int .i64 c] 3)).drew (some ⟨w.heap.size, 0, none⟩) 1 [c]) := Lib.hid (int_lit w c 1)
  have hbs : w0.heap.size ≤ (w.alloc (.cells #[.int .i64 c] 3)).drew.heap.size := XA.out.b.size
  have KA := Lib.hid (keepO_below BA)
  clear H hz ha hm hDQ h
  go_enter Try.func24, Try.ntmps24
  go_wp2_with fail
  go_region_law (first
    | (refine step_append_que shI rfl _ _ 24 rfl w0.heap.size 3 i0 _ 8 Try.underlying24 hi hz0 hz1 hz2 rfl (.slice ad m cap) m d [c] rfl FO.out (some ⟨w.heap.size, 0, none⟩) 1 1 rfl (Lib.hid rfl) LA.out (by unfold maxLen; omega) (by omega) hbs ?_; intro ra rc w4 own4 grow4 new4; have H4 := XA.out.hpD grow4; have hB4 := heap_lt H4; have C4 := cell_hp (i := 2) H4 rfl; have hf4 : ∀ i, w4.frozen? ⟨B, i, none⟩ = false := fun i => frozen_of_row w4 B i _ _ H4; have C41 := cell_hp (i := 1) H4 rfl; have G4 := Lib.hid grow4; have P4 := Lib.hid own4; have N4 := Lib.hid new4; clear own4 grow4 new4 H4)
    | fail)
  all_goals go_wp2_with fail
  all_goals go_end0
  all_goals exact ⟨rfl, ⟨_, _, (XA.out.putD G4.out P4.out N4.out).setN (-1)⟩, ((KA.out.trans (keepO_que FO.out G4.out)).trans (keepO_set (XA.out.hpD G4.out))).trans (keepO_set (XA.out.putD G4.out P4.out N4.out).hp)⟩
end Go.Proofs.Ytlmkbgclogbpfaa
