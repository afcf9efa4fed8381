/- Package runq: the walk of newQueue. -/
import Derived.Test.YtgnpodeneknpdaaRqA
import Derived.Test.YtgnpodeneknpdaaRowL
import Derived.Deep.WholeRow
import Derived.Deep.RegionLaw
import Derived.Deep.Cut
import Derived.Deep.CutRange
import Derived.Deep.RegionWith
import Derived.Deep.RegionHeld3
import Derived.BigQuiet
import Derived.Deep.QuietTactic
namespace Go.Proofs.Ytgnpodeneknpdaa
open Go.RowKit Go.Maps

def zQ : Array Value := Array.replicate 32 (Value.pointer none) ++ #[Value.map none, Value.slice none 0 0]
theorem built_queue (b : Nat) : Try.prog.built 55 [(1, .map (some b))] = some (zQ.setIfInBounds 32 (.map (some b))) := by kernel_rfl
/-- What the zero queue's cells are. -/
structure ZOk (Z : Array Value) : Prop where
  sz : Z.size = 34
  ta : Z[33]? = some (.slice none 0 0)
theorem zQ_ok : ZOk zQ := by
  exact ⟨by decide, by rfl⟩
/-- The queue when k of its rings are there. -/
structure NewK (w wr : World) (B m k : Nat) (R : Array Value) : Prop where
  b : Below w.heap.size w wr
  hB : w.heap.size ≤ B
  hm : w.heap.size ≤ m
  hp : wr.heap[B]? = some (.cells R 55 (0, 0))
  sz : wr.heap.size = B + 1 + k
  rs : R.size = 34
  re : ∀ j, j < k → R[j]? = some (.pointer (some ⟨B + 1 + j, 0, none⟩))
  rm : R[32]? = some (.map (some m))
  rt : R[33]? = some (.slice none 0 0)
  mp : MapP wr m 0 (fun _ => none) 0
  nod : ∀ j, j < k → wr.heap[B + 1 + j]? = some (.cells #[.int .i64 0, .pointer (some ⟨B + 1 + j, 0, none⟩), .pointer (some ⟨B + 1 + j, 0, none⟩)] 72 (0, 0))
section
variable {w wr : World} {B m k : Nat} {R : Array Value}
theorem NewK.next (h : NewK w wr B m k R) (hk : k < 32) (w' : World) (e : w' = (wr.setCell ⟨B, k, none⟩ (.pointer (some ⟨wr.heap.size, 0, none⟩))).alloc (.cells #[.int .i64 0, .pointer (some ⟨wr.heap.size, 0, none⟩), .pointer (some ⟨wr.heap.size, 0, none⟩)] 72)) :
    NewK w w' B m (k + 1) (R.setIfInBounds k (.pointer (some ⟨wr.heap.size, 0, none⟩))) := by
  subst e
  have hs := h.sz
  have h1 : (wr.setCell ⟨B, k, none⟩ (.pointer (some ⟨wr.heap.size, 0, none⟩))).heap[B]? = some (.cells (R.setIfInBounds k (.pointer (some ⟨wr.heap.size, 0, none⟩))) 55 (0, 0)) := heap_setCell_same wr B k _ _ _ h.hp
  have hb := below_alloc (wr.setCell ⟨B, k, none⟩ (.pointer (some ⟨wr.heap.size, 0, none⟩))) (.cells #[.int .i64 0, .pointer (some ⟨wr.heap.size, 0, none⟩), .pointer (some ⟨wr.heap.size, 0, none⟩)] 72)
  refine ⟨(h.b.trans (Below.setCell (Below.refl _ _) h.hB _)).trans (hb.mono (by simpa using h.b.size)), h.hB, h.hm, heap_step h1 hb, by simp; omega, by rw [Array.size_setIfInBounds]; exact h.rs, fun j hj => ?_, ?_, ?_, ?_, fun j hj => ?_⟩
  · by_cases e : j = k
    · subst e
      rw [Array.getElem?_setIfInBounds, if_pos rfl, if_pos (by rw [h.rs]; omega), hs]
    · rw [Array.getElem?_setIfInBounds_ne (fun q => e q.symm)]
      exact h.re j (by omega)
  · rw [Array.getElem?_setIfInBounds_ne (by omega)]; exact h.rm
  · rw [Array.getElem?_setIfInBounds_ne (by omega)]; exact h.rt
  · exact (h.mp.same (Below.heap_setCell wr ⟨B, k, none⟩ _ m (fun e => mapP_ne h.mp h.hp e.symm))).step hb
  · by_cases e : j = k
    · subst e
      rw [← hs]
      have := heap_alloc_new (wr.setCell ⟨B, j, none⟩ (.pointer (some ⟨wr.heap.size, 0, none⟩))) (.cells #[.int .i64 0, .pointer (some ⟨wr.heap.size, 0, none⟩), .pointer (some ⟨wr.heap.size, 0, none⟩)] 72)
      simpa using this
    · refine heap_step ?_ hb
      exact (Below.heap_setCell wr ⟨B, k, none⟩ _ _ (by simp; omega)).trans (h.nod j (by omega))
theorem NewK.done (h : NewK w wr B m 32 R) : QuS w wr B m 0 newU := by
  refine ⟨⟨fun j => B + 1 + j, fun b => b, fun b => b, fun _ => 0, fun _ => [], fun b => b - (B + 1), fun _ => none⟩, R, .slice none 0 0, ⟨h.b, h.hB, h.hp, h.re, h.rm, h.rt, h.hm, h.mp, World.ownsRow_nil _ _ _ _, fun j hj b hb => ?_, fun i b e => by cases e⟩, ⟨fun j _ => ⟨rfl, rfl⟩, fun j _ => by simp, fun j _ b hb => ?_, fun j _ => ?_, fun i b => ?_, good_newU⟩⟩
  · have e : b = B + 1 + j := by simpa using hb
    subst e
    exact ⟨h.nod j hj, by have := h.hB; omega⟩
  · have e : b = B + 1 + j := by simpa using hb
    subst e
    show B + 1 + j - (B + 1) = j
    omega
  · rfl
  · constructor
    · intro e; cases e
    · rintro ⟨j, _, e, _⟩; cases e
end
set_option maxHeartbeats 1000000 in
set_option maxRecDepth 100000 in
theorem new_core (Z : Array Value) (HO : Hid (ZOk Z)) (hbl : ∀ b, Try.prog.built 55 [(1, .map (some b))] = some (Z.setIfInBounds 32 (.map (some b)))) (w : World) :
    Calls Try.prog 24 #[] w fun e w' => ∃ B m, e = .returned (.pointer (some ⟨B, 0, none⟩)) ∧ QuS w w' B m 0 newU := by
  have hmk := @run_makeMap Try.prog
  obtain ⟨R0, hR0⟩ : ∃ R0, Z.setIfInBounds 32 (.map (some w.heap.size)) = R0 := ⟨_, rfl⟩
  have HR0 := Lib.hid hR0
  have HRS : Hid (R0.size = 34) := Lib.hid (by rw [← hR0, Array.size_setIfInBounds, HO.out.sz])
  have HBL : Hid (Try.prog.built 55 [(1, .map (some w.heap.size))] = some R0) := Lib.hid (by rw [← hR0]; exact hbl _)
  clear hbl hR0
  go_enter Try.func24, Try.ntmps24
  go_upto_region 2 with (first
    | (refine wpList_build_row rfl 55 _ rfl R0 ?_ ?_; focus (simp only [List.map_toArray, List.map_cons, List.map_nil]; exact HBL.out))
    | fail)
  have hq2 := heap_alloc_new (w.alloc (.map #[] 0)) (.cells R0 55)
  simp only [World.size_alloc] at hq2
  have hs2 : ((w.alloc (.map #[] 0)).alloc (.cells R0 55)).heap.size = w.heap.size + 1 + 1 := by simp
  have hb2 := below_two w (.map #[] 0) (.cells R0 55)
  have hm2 := (map_newP w).step (below_alloc _ (.cells R0 55))
  generalize (w.alloc (.map #[] 0)).alloc (.cells R0 55) = w2 at hq2 hs2 hb2 hm2 ⊢
  have N0 : NewK w w2 (w.heap.size + 1) w.heap.size 0 R0 := by
    have hge : ∀ i, i ≠ 32 → R0[i]? = Z[i]? := fun i hi => by rw [← HR0.out]; exact Array.getElem?_setIfInBounds_ne (fun e => hi e.symm)
    refine ⟨hb2, by omega, Nat.le_refl _, hq2, hs2, HRS.out, (fun j hj => by omega), ?_, by rw [hge 33 (by decide), HO.out.ta], hm2, fun j hj => by omega⟩
    rw [← HR0.out, Array.getElem?_setIfInBounds, if_pos rfl, if_pos (by rw [HO.out.sz]; omega)]
  have HN := Lib.hid N0
  clear N0 hs2 hq2 hb2 hm2 HBL HRS HR0 hmk
  obtain ⟨m, hm⟩ : ∃ m, w.heap.size = m := ⟨_, rfl⟩
  obtain ⟨B, hB⟩ : ∃ B, w.heap.size + 1 = B := ⟨_, rfl⟩
  have HN2 : Hid (NewK w w2 B m 0 R0) := Lib.hid (hB ▸ hm ▸ HN.out)
  rw [hB]
  clear HN hm hB
  go_wp2_with fail
  go_loopw [7] (fun i wr => ∃ k : Nat, k ≤ 32 ∧ i = .int .i64 k ∧ Hid (∃ R, NewK w wr B m k R)) (fun i _ => 32 - (intOf i).toNat)
  case atStart => exact ⟨0, Nat.zero_le _, rfl, Lib.hid ⟨_, HN2.out⟩⟩
  case round =>
    clear HN2
    obtain ⟨k, hk, rfl, HK⟩ := hrel
    obtain ⟨R, h⟩ := HK.out
    by_cases hlt : k < 32
    · have hc : wr.cell? ⟨B, k, none⟩ = some R[k]! := by
        rw [cell_of_row wr B k _ _ _ h.hp, Array.getElem?_eq_getElem (by rw [h.rs]; omega), getElem!_pos _ _ (by rw [h.rs]; omega)]
      have hf := frozen_of_row wr B k _ _ h.hp
      have hBl := heap_lt h.hp
      have HH := Lib.hid h
      generalize R[k]! = u at hc
      clear h
      go_wp2_with fail
      go_roundw
      case rel => exact ⟨k + 1, by omega, by go_num, Lib.hid ⟨_, HH.out.next hlt _ rfl⟩⟩
      case measure => simp [intOf]; omega
    · obtain rfl : k = 32 := by omega
      have HQ := Lib.hid h.done
      go_wp2_with fail
      go_ret
      exact ⟨B, m, rfl, HQ.out⟩
theorem newQueue_N (w : World) : Calls Try.prog 24 #[] w fun e w' => ∃ B m, e = .returned (.pointer (some ⟨B, 0, none⟩)) ∧ QuS w w' B m 0 newU := by
  exact new_core zQ (Lib.hid zQ_ok) built_queue w
end Go.Proofs.Ytgnpodeneknpdaa
