/- Package wheel: the walk of cancel. -/
import Derived.Test.YtnnphmpodcmmoaaWhlC
namespace Go.Proofs.Ytnnphmpodcmmoaa
open Go.RowKit Go.Maps

theorem own_block_len (ad : Option Addr) (n n' c : Nat) : (Value.slice ad n c).ownBlock = (Value.slice ad n' c).ownBlock := by cases ad <;> rfl
set_option maxHeartbeats 4000000 in
set_option maxRecDepth 100000 in
theorem cancel_W {w0 w : World} {B m L now : Nat} {set : List FiT} {sl : Nat → List Int} {fd : List FiT} {R : Array Value} (HW : Hid (WhR w0 w B m L now set sl fd R)) (i : Int) (t j n k : Nat) (hwf : WfI i) (hj : t % 511 = j) (hti : (t, i) ∈ set) (hnd : set.Pairwise fun a b => ¬ a.2 = b.2)
    (HS : Hid ((sl j).Pairwise (· < ·))) (HN : Hid ((sl j).length = n)) (hn : n ≤ 1000000) (HK : Hid ((sl j).countP (· < i) = k)) (hkn : k < n) :
    Calls Try.prog 26 #[.pointer (some ⟨B, 0, none⟩), .int .i64 i] w fun e w' => e = .returned (.tuple #[]) ∧ ∃ R', WhR w0 w' B m L now (cutL i set) (fun x => if x = j then (sl j).take k ++ (sl j).drop (k + 1) else sl x) fd R' ∧ KeepT w w' := by
  obtain ⟨c0, cm, hBl, fz⟩ := HW.out.read
  obtain ⟨D, o1, T1⟩ := HW.out.mp
  have O1 := Lib.hid o1
  have HT1 := Lib.hid T1
  have hj5 : j < 511 := by omega
  have hj0 : (0 : Int) ≤ (j : Int) := by omega
  have hj1 : (j : Int) < 511 := by omega
  have htm : Int.tmod (t : Int) 511 = (j : Int) := by rw [tmod_nat, hj]
  have WFi : (Lit.int .i64 i).wf = true := hwf
  have hw1 : IntKind.i64.wrap ((k : Int) + 1) = (k : Int) + 1 := by rw [IntKind.wrap_i64]; omega
  have HTI := Lib.hid hti
  have HND := Lib.hid hnd
  obtain ⟨v, hv, own⟩ := HW.out.sl j hj5
  rw [HN.out] at own
  obtain ⟨ad, c, rfl, hnc, hcm, hz, hg⟩ := own_shape own
  have HV := Lib.hid hv
  have HO := Lib.hid own
  clear o1 T1 hv own
  go_enter Try.func26, Try.ntmps26
  go_upto_region 3 with (first
    | (at_lookup; refine wpList_lookup_own_int _ rfl _ _ 34 rfl 3 3 .i64 lawI Try.underlying34 Try.underlying3 (zeroI _) m L D rfl O1.out _ (.int .i64 i) rfl (keyOf_int_mk Try.underlying3 WFi) ?_; intro c' hc' _; obtain rfl : (t : Int) = c' := HT1.out.got HTI.out hc')
    | (at_delete; refine wpList_delete_own _ rfl _ _ 34 3 rfl 3 lawI Try.underlying34 _ m L D rfl O1.out _ (.int .i64 i) rfl (keyOf_int_mk Try.underlying3 WFi) ?_; intro w1 hown1 hturn1; have hg1 := hturn1.grown; have X1 := Lib.hid (HW.out.turn hg1 ⟨_, hown1, HT1.out.del (O1.out.tidy lawI) HND.out⟩); have Y1 := X1.out.cell HV.out; have Z1 := X1.out.lt; have KT1 := Lib.hid (keep_turn HW.out.mp hg1); have V1 := Lib.hid (own_heap HO.out fun g o hgo ho => (hg1.block g (heap_lt ho) (fun e => own_nemapW HO.out HW.out.mp g hgo (Option.some.inj e))).trans ho); clear hown1 hg1 hturn1)
    | (go_at_call 31; (with_reducible refine (search_own i _ V1 HN (by omega) HS k HK).mono ?_); rintro e w2 ⟨⟨q, rfl⟩, hb, hh⟩; have X2 := Lib.hid (X1.out.step hb); have Y2 := X2.out.cell HV.out; have Z2 := X2.out.lt; have V2 := Lib.hid (own_step V1.out hb); have F2 := X2.out.froz; have KT2 := Lib.hid (KT1.out.trans (keep_below hb)); clear hb hh)
    | fail)
  have BA : Below w2.heap.size w2 w2.drew := (Below.refl _ w2).drew
  have XA := Lib.hid (X2.out.step BA)
  have OA := Lib.hid (own_step V2.out BA)
  have HLN : Hid (((sl j).take k ++ (sl j).drop (k + 1)).length = n - 1) := Lib.hid (by
    rw [List.length_append, List.length_take, List.length_drop, HN.out, Nat.min_eq_left (by omega)]
    omega)
  go_region_with (first
    | (go_at_call 33; (with_reducible refine (delete_own k _ OA HN hkn).mono ?_); rintro e w4 ⟨rfl, own4, grow4⟩; have G4 := Lib.hid grow4; have P4 := Lib.hid own4; have hB4 := heap_lt (hp_grown XA.out OA.out grow4); have C4 := (sv_grown XA.out HV.out OA.out grow4).c; have hf4 : w4.frozen? ⟨B, 1 + j, none⟩ = false := frz_grown XA.out OA.out grow4 _; clear own4 grow4)
    | fail)
  all_goals go_wp2_with fail
  all_goals go_end0
  all_goals exact ⟨rfl, _, XA.out.slot hj5 HV.out G4.out P4.out HLN.out (fun g hg => Or.inl (by rw [own_block_len ad n (n - 1) c]; exact hg)), ((KT2.out.trans (keep_below BA)).trans (keep_int OA.out G4.out)).trans (keep_set (hp_grown XA.out OA.out G4.out))⟩
end Go.Proofs.Ytnnphmpodcmmoaa
