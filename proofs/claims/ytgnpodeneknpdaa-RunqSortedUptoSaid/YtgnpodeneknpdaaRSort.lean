/- RunqSorted for argument rows of moderate size. -/
import Derived.Test.YtgnpodeneknpdaaRqL
import Derived.Test.YtgnpodeneknpdaaConI
namespace Go.Proofs.Ytgnpodeneknpdaa
open Go.RowKit

theorem rep_next (k : Nat) : (List.replicate (k + 1) (⟨3, 0, 0⟩ : RuT)) = List.replicate k ⟨3, 0, 0⟩ ++ [⟨3, 0, 0⟩] := by rw [List.replicate_succ']
set_option maxHeartbeats 4000000 in
set_option maxRecDepth 100000 in
theorem sorted_ok {a1 : Option Addr} {c1 n : Nat} {ops : List RuT} (w : World) (HA : Hid (shR.At w a1 c1 ops)) (hm : Hid (ops.length = n)) (hn : n ≤ 1048576) (HW : Hid (∀ o ∈ ops, WfI o.i)) :
    Calls Try.prog 4 #[.slice a1 n c1] w fun e w' => e = .returned (.bool true) ∧ Below w.heap.size w w' := by
  obtain ⟨i0, hi, hz0, hz1, hz2⟩ := info_parts info_ru
  obtain ⟨s, hs⟩ : ∃ s, runU newU ops = s := ⟨_, rfl⟩
  obtain ⟨tl, htl⟩ : ∃ tl, s.taken.length = tl := ⟨_, rfl⟩
  obtain ⟨ll, hll⟩ : ∃ ll, s.list.length = ll := ⟨_, rfl⟩
  have hsz := run_sizes hs
  rw [htl, hll, hm.out] at hsz
  have hs2 : runU newU (ops ++ List.replicate ll ⟨3, 0, 0⟩) = ⟨[], s.taken ++ leftU s⟩ := by rw [runU_append, hs, take_all 0 0 ll s hll]
  have HP1 := Lib.hid (fun (ra : Option Addr) (rc : Nat) X (HX : Hid (shR.At X ra rc ops)) => play_res hm (by omega) HW (Lib.hid rfl) (Lib.hid hs) (Lib.hid htl) (Lib.hid hll) ra rc X HX)
  have HML2 : Hid ((ops ++ List.replicate ll (⟨3, 0, 0⟩ : RuT)).length = n + ll) := Lib.hid (by rw [List.length_append, hm.out, List.length_replicate])
  have HW2 : Hid (∀ o ∈ ops ++ List.replicate ll (⟨3, 0, 0⟩ : RuT), WfI o.i) := Lib.hid (by
    intro o ho
    rcases List.mem_append.1 ho with ho | ho
    · exact HW.out o ho
    · rw [(List.mem_replicate.1 ho).2]
      unfold WfI
      decide)
  have HT2 : Hid ((⟨[], s.taken ++ leftU s⟩ : StU).taken.length = tl + ll) := Lib.hid (by rw [List.length_append, htl, left_len, hll])
  have HP2 := Lib.hid (fun (ra : Option Addr) (rc : Nat) X (HX : Hid (shR.At X ra rc (ops ++ List.replicate ll (⟨3, 0, 0⟩ : RuT)))) => play_res HML2 (by omega) HW2 (Lib.hid rfl) (Lib.hid hs2) HT2 (Lib.hid rfl) ra rc X HX)
  unfold PlayN at HP1 HP2
  obtain ⟨taken, htk⟩ : ∃ taken, s.taken = taken := ⟨_, rfl⟩
  obtain ⟨left, hlf⟩ : ∃ left, leftU s = left := ⟨_, rfl⟩
  have HLT : Hid (taken.length = tl) := Lib.hid (by rw [← htk]; exact htl)
  have HLL : Hid (left.length = ll) := Lib.hid (by rw [← hlf, left_len]; exact hll)
  have HLC : Hid ((taken ++ left).length = tl + ll) := Lib.hid (by rw [List.length_append, HLT.out, HLL.out])
  have HTK := Lib.hid htk
  have HLF := Lib.hid hlf
  have htb : tl ≤ 1048576 := by omega
  have hlb : ll ≤ 1048576 := by omega
  have hcb : tl + ll ≤ 9223372036854775807 := by omega
  have hnn : n ≤ 5864062014634 := by omega
  clear hs hs2 htl hll htk hlf hsz HT2 HW2
  go_enter Try.func4, Try.ntmps4
  go_upto_region 6 with (first
    | (go_at_call 13; (with_reducible refine (alive13_N _).mono ?_); rintro e w1 ⟨rfl, hb⟩; have B1 := Lib.hid hb; have A1 := Lib.hid (HA.out.step hb); clear hb)
    | (go_at_call 9; (with_reducible refine (HP1.out _ _ _ A1).mono ?_); rintro e w2 ⟨E, ta, tc, la, lc, rfl, _, hT, hL, hb⟩; rw [HTK.out] at hT; rw [HLF.out] at hL; have B2 := Lib.hid (pstep B1.out hb); have T2 := Lib.hid hT; have L2 := Lib.hid hL; have A2 := Lib.hid (A1.out.step hb); clear hb hT hL)
    | (go_at_call 14; (with_reducible refine (clone_R _ _ _ _ _ hm A2 hnn).mono ?_); rintro e w3 ⟨ra, rc, rfl, ho, hb⟩; have B3 := Lib.hid hb; have O3 := Lib.hid ho; clear hb ho)
    | fail)
  clear A2 A1
  go_loopw [6, 22] (fun v i wr => ∃ (k : Nat) (va : Option Addr) (vc : Nat), k ≤ ll ∧ i = .int .i64 k ∧ v = .slice va (n + k) vc ∧ Hid (wr.ownsRow w2.heap.size 34 3 (.slice va (n + k) vc) (n + k) (shR.flat (ops ++ List.replicate k ⟨3, 0, 0⟩))) ∧ Hid (Below w2.heap.size w2 wr)) (fun _ i _ => ll - (intOf i).toNat)
  case atStart => exact ⟨0, ra, rc, Nat.zero_le _, rfl, rfl, by rw [List.replicate_zero, List.append_nil]; exact O3, B3⟩
  case round =>
    obtain ⟨k, va, vc, hk, rfl, rfl, HO, HB⟩ := hrel
    by_cases hlt : k < ll
    · have HNX : Hid (ops ++ List.replicate (k + 1) (⟨3, 0, 0⟩ : RuT) = ops ++ List.replicate k ⟨3, 0, 0⟩ ++ [⟨3, 0, 0⟩]) := Lib.hid (by rw [rep_next, ← List.append_assoc])
      have HAL : Hid ((ops ++ List.replicate k (⟨3, 0, 0⟩ : RuT)).length = n + k) := Lib.hid (by rw [List.length_append, hm.out, List.length_replicate])
      have BA := below_alloc wr (.cells #[.int .i64 3, .int .i64 0, .int .i64 0] 34)
      have O4 := Lib.hid (own_step HO.out BA)
      have N4 := Lib.hid (ru_oneAt wr ⟨3, 0, 0⟩ 1)
      have B4 := Lib.hid (HB.out.trans (BA.mono HB.out.size))
      have hs4 : w2.heap.size ≤ (wr.alloc (.cells #[.int .i64 3, .int .i64 0, .int .i64 0] 34)).heap.size := B4.out.size
      clear BA
      go_wp2_with (first
        | (at_builtin; refine wpList_append_n shR rfl _ _ 22 rfl w2.heap.size 34 i0 _ 24 Try.underlying22 hi hz0 hz1 hz2 rfl (.slice va (n + k) vc) (n + k) (ops ++ List.replicate k (⟨3, 0, 0⟩ : RuT)) [⟨3, 0, 0⟩] HAL rfl O4.out (some ⟨wr.heap.size, 0, none⟩) 1 1 rfl (Lib.hid rfl) N4.out (by unfold maxLen; omega) (by omega) hs4 ?_; intro ra4 rc4 w4 own4 grow4 _; have B5 := Lib.hid (B4.out.grown grow4 B4.out.size (fun _ hq => (own_lt O4.out hq).1)); rw [← HNX.out] at own4; have O5 := Lib.hid own4; clear own4 grow4)
        | fail)
      go_roundw
      case rel => exact ⟨k + 1, ra4, rc4, by omega, by go_num, rfl, O5, B5⟩
      case measure => simp [intOf]; omega
    · obtain rfl : k = ll := by omega
      have PV := Lib.hid (Shape.At.own (S := shR) HO.out HML2.out)
      have TQ := Lib.hid (T2.out.step HB.out)
      have LQ := Lib.hid (L2.out.step HB.out)
      have BQ := Lib.hid (pstep B2.out HB.out)
      clear hlt hk HO HB O3 B3
      go_wp2_with (first
        | (go_at_call 9; (with_reducible refine (HP2.out _ _ _ PV).mono ?_); rintro e w6 ⟨E2, ta2, tc2, la2, lc2, rfl, _, hT, _, hb⟩; rw [HTK.out, HLF.out] at hT; have bx := below_alloc w6 (.cells #[.slice ta tl tc, .slice la k lc] 24); have hq := heap_alloc_new w6 (.cells #[.slice ta tl tc, .slice la k lc] 24); have HQ := Lib.hid hq; have B6 := Lib.hid (pstep (pstep BQ.out hb) bx); have M6 := Lib.hid (Shape.At.step hT bx); have T6 := Lib.hid ((TQ.out.step hb).step bx); have L6 := Lib.hid ((LQ.out.step hb).step bx); clear hb hT bx hq)
        | (go_at_call 15; (with_reducible refine (concat_Int _ _ _ _ _ _ _ _ _ _ HQ HLT HLL T6 L6 htb hlb _ (Lib.hid rfl)).mono ?_); rintro e w7 ⟨ra7, rc7, rfl, hc, hb⟩; have B7 := Lib.hid (pstep B6.out hb); have M7 := Lib.hid (M6.out.step hb); have C7 := Lib.hid hc; clear hb hc)
        | (go_at_call 12; (with_reducible refine (equalI _ HLC M7 C7 hcb).mono ?_); rintro e w8 ⟨rfl, hb⟩; have B8 := Lib.hid (pstep B7.out hb); clear hb)
        | fail)
      go_ret
      exact ⟨rfl, B8.out⟩
theorem runqSorted_walk (v : Value) (w : World) (h : ArgRus w v) (u : lenOf v ≤ 1048576) : Calls Try.prog 4 #[v] w fun e w' => e = .returned (.bool true) ∧ Below w.heap.size w w' := by
  obtain ⟨a1, c1, l, rfl, hA, hwf, _, _⟩ := h
  exact sorted_ok w (Lib.hid hA) (Lib.hid rfl) u (Lib.hid hwf)
end Go.Proofs.Ytgnpodeneknpdaa
