/- Package wheel: the walk of add. -/
import Derived.Test.YtnnphmpodcmmoaaWhlB
import Derived.Test.YtnnphmpodcmmoaaInsI
import Derived.Deep.Cut
import Derived.Deep.RegionWith
namespace Go.Proofs.Ytnnphmpodcmmoaa
open Go.RowKit Go.Maps

theorem tmod_nat (t : Nat) : Int.tmod (t : Int) 511 = ((t % 511 : Nat) : Int) := by
  rw [Int.tmod_eq_emod_of_nonneg (by omega)]
  rfl
/-- One cell of the wheel, read while a region draws its order. -/
structure Sv (B i : Nat) (v : Value) (wx : World) : Prop where
  c : wx.cell? ⟨B, i, none⟩ = some v
  h : B < wx.heap.size
theorem hp_grown {w0 w w' : World} {B m L now n : Nat} {set : List FiT} {sl : Nat → List Int} {fd : List FiT} {R : Array Value} {v : Value} {xs : List Value} (h : WhR w0 w B m L now set sl fd R) (ho : w.ownsRow w0.heap.size 3 1 v n xs) (hg : w.grownBy w' v.ownBlock) : w'.heap[B]? = some (.cells R 46 (0, 0)) :=
  (hg.block _ (heap_lt h.hp) (fun e => own_ne ho h.hp (by decide) B e.symm rfl)).trans h.hp
theorem sv_grown {w0 w w' : World} {B m L now n i : Nat} {set : List FiT} {sl : Nat → List Int} {fd : List FiT} {R : Array Value} {v u : Value} {xs : List Value} (h : WhR w0 w B m L now set sl fd R) (hu : R[i]? = some u) (ho : w.ownsRow w0.heap.size 3 1 v n xs) (hg : w.grownBy w' v.ownBlock) : Sv B i u w' :=
  ⟨by rw [cell_of_row w' B i _ _ _ (hp_grown h ho hg)]; exact hu, heap_lt (hp_grown h ho hg)⟩
theorem frz_grown {w0 w w' : World} {B m L now n : Nat} {set : List FiT} {sl : Nat → List Int} {fd : List FiT} {R : Array Value} {v : Value} {xs : List Value} (h : WhR w0 w B m L now set sl fd R) (ho : w.ownsRow w0.heap.size 3 1 v n xs) (hg : w.grownBy w' v.ownBlock) (i : Nat) : w'.frozen? ⟨B, i, none⟩ = false := frozen_of_row w' B i R _ (hp_grown h ho hg)
set_option maxHeartbeats 4000000 in
set_option maxRecDepth 100000 in
theorem add_W {w0 w : World} {B m L now : Nat} {set : List FiT} {sl : Nat → List Int} {fd : List FiT} {R : Array Value} (HW : Hid (WhR w0 w B m L now set sl fd R)) (i : Int) (t j n k : Nat) (hwf : WfI i) (ht : t ≤ 1099511627776) (hj : t % 511 = j) (hq : setQ set i = false) (hL : L ≤ 1000000)
    (HS : Hid ((sl j).Pairwise (· < ·))) (HN : Hid ((sl j).length = n)) (hn : n ≤ 1000000) (HK : Hid ((sl j).countP (· < i) = k)) :
    Calls Try.prog 25 #[.pointer (some ⟨B, 0, none⟩), .int .i64 i, .int .i64 (t : Int)] w fun e w' => e = .returned (.tuple #[]) ∧ ∃ R', WhR w0 w' B m (L + 1) now (insT (t, i) set) (fun x => if x = j then (sl j).take k ++ [i] ++ (sl j).drop k else sl x) fd R' ∧ KeepT w w' := by
  obtain ⟨c0, cm, hBl, fz⟩ := HW.out.read
  obtain ⟨D, o1, T1⟩ := HW.out.mp
  have O1 := Lib.hid o1
  have HT1 := Lib.hid T1
  have hj5 : j < 511 := by omega
  have hj0 : (0 : Int) ≤ (j : Int) := by omega
  have hj1 : (j : Int) < 511 := by omega
  have htm : Int.tmod (t : Int) 511 = (j : Int) := by rw [tmod_nat, hj]
  have WFi : (Lit.int .i64 i).wf = true := hwf
  have WFt : (Lit.int .i64 (t : Int)).wf = true := WalkArith.wf_i64 (by omega)
  have hLm : L < maxLen := by unfold maxLen; omega
  have HQ := Lib.hid hq
  obtain ⟨v, hv, own⟩ := HW.out.sl j hj5
  rw [HN.out] at own
  obtain ⟨ad, c, rfl, hnc, hcm, hz, hg⟩ := own_shape own
  have HV := Lib.hid hv
  have HO := Lib.hid own
  clear o1 T1 hv own
  go_enter Try.func25, Try.ntmps25
  go_upto_region 3 with (first
    | (at_mapUpdate; refine wpList_mapUpdate_own _ rfl _ _ _ 34 rfl 3 3 lawI Try.underlying34 _ m L D rfl O1.out hLm _ _ (.int .i64 i) rfl rfl (keyOf_int_mk Try.underlying3 WFi) (.lit (.int .i64 (t : Int))) [] (plainElem_int Try.underlying3 WFt) ?_; intro w1 hown1 hg1; have X1 := Lib.hid (HW.out.turn hg1 ⟨_, hown1, HT1.out.put O1.out.isMap (O1.out.tidy lawI) HQ.out⟩); have Y1 := X1.out.cell HV.out; have Z1 := X1.out.lt; have KT1 := Lib.hid (keep_turn HW.out.mp hg1); have V1 := Lib.hid (own_heap HO.out fun g o hgo ho => (hg1.block g (heap_lt ho) (fun e => own_nemapW HO.out HW.out.mp g hgo (Option.some.inj e))).trans ho); clear hown1 hg1)
    | (go_at_call 31; (with_reducible refine (search_own i _ V1 HN (by omega) HS k HK).mono ?_); rintro e w2 ⟨⟨q, rfl⟩, hb, hh⟩; have X2 := Lib.hid (X1.out.step hb); have Y2 := X2.out.cell HV.out; have Z2 := X2.out.lt; have V2 := Lib.hid (own_step V1.out hb); have F2 := X2.out.froz; have KT2 := Lib.hid (KT1.out.trans (keep_below hb)); clear hb hh)
    | fail)
  have BA : Below w2.heap.size w2 (w2.alloc (.cells #[.int .i64 i] 3)).drew := (below_alloc w2 _).drew
  have XA := Lib.hid (X2.out.step BA)
  have OA := Lib.hid (own_step V2.out BA)
  have NA : Hid ((w2.alloc (.cells #[.int .i64 i] 3)).drew.heap[w2.heap.size]? = some (.cells #[.int .i64 i] 3 (0, 0))) := Lib.hid (heap_alloc_new w2 (.cells #[.int .i64 i] 3))
  have hbA : w0.heap.size ≤ (w2.alloc (.cells #[.int .i64 i] 3)).drew.heap.size := XA.out.b.size
  have hkn : k ≤ n := by rw [← HK.out, ← HN.out]; exact List.countP_le_length
  have hvb : ∀ g, (Value.slice ad n c).ownBlock = some g → w2.heap.size ≠ g := fun g hg e => by have := (own_lt V2.out hg).2; omega
  have HLN : Hid (((sl j).take k ++ [i] ++ (sl j).drop k).length = n + 1) := Lib.hid (by
    rw [List.length_append, List.length_append, List.length_take, List.length_drop, HN.out, Nat.min_eq_left hkn]
    simp
    omega)
  go_region_with (first
    | (go_at_call 32; (with_reducible refine (insi_any (sl j) i n c k w2.heap.size w0.heap.size _ ad NA HN (by omega) hbA OA hkn hvb).mono ?_); rintro e w4 ⟨ra, rc, rfl, own4, grow4, new4⟩; have G4 := Lib.hid grow4; have P4 := Lib.hid own4; have N4 := Lib.hid new4; have hB4 := heap_lt (hp_grown XA.out OA.out grow4); have C4 := (sv_grown XA.out HV.out OA.out grow4).c; have hf4 : w4.frozen? ⟨B, 1 + j, none⟩ = false := frz_grown XA.out OA.out grow4 _; clear own4 grow4 new4)
    | fail)
  all_goals go_wp2_with fail
  all_goals go_end0
  all_goals exact ⟨rfl, _, XA.out.slot hj5 HV.out G4.out P4.out HLN.out N4.out, ((KT2.out.trans (keep_below BA)).trans (keep_int OA.out G4.out)).trans (keep_set (hp_grown XA.out OA.out G4.out))⟩
end Go.Proofs.Ytnnphmpodcmmoaa
