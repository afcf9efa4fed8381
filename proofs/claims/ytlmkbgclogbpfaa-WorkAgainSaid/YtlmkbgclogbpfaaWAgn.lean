/- WorkAgain: what is being done can be queued again, and is done again then. -/
import Derived.Test.YtlmkbgclogbpfaaWFlu
import Derived.Lib.MinMax
namespace Go.Proofs.Ytlmkbgclogbpfaa
open Go.RowKit

theorem count_next {l : List Int} {k : Nat} {x c : Int} (h : l[k]? = some x) : (l.take (k + 1)).count c = (l.take k).count c + if x = c then 1 else 0 := by
  rw [List.take_add_one, h, List.count_append]
  simp [List.count_singleton]
section
variable {ad : Option Addr} {cap n : Nat} {ops : List WoT}
set_option maxHeartbeats 2000000 in
set_option maxRecDepth 100000 in
theorem agn_bad (w : World) (h : 400 < n) (hn : n ≤ 9223372036854775807) :
    Calls Try.prog 6 #[.slice ad n cap] w fun e w' => e = .returned (.bool true) ∧ Below w.heap.size w w' := by
  go_enter Try.func6, Try.ntmps6
  go_wp2_with (first
    | (go_at_call 12; (with_reducible refine (alive12_N _).mono ?_); rintro e w1 ⟨rfl, hb⟩; have B1 := Lib.hid hb; clear hb)
    | (go_at_call 8; (with_reducible refine (play_bad ad cap n _ h hn).mono ?_); rintro e w2 ⟨rfl, rfl⟩)
    | fail)
  go_ret
  exact ⟨rfl, B1.out⟩
set_option maxHeartbeats 4000000 in
set_option maxRecDepth 100000 in
theorem agn_ok (w : World) (HA : Hid (shO.At w ad cap ops)) (hm : Hid (ops.length = n)) (hn : n ≤ 400) :
    Calls Try.prog 6 #[.slice ad n cap] w fun e w' => e = .returned (.bool true) ∧ Below w.heap.size w w' := by
  obtain ⟨i0, hi, hz0, hz1, hz2⟩ := info_parts info_wo
  obtain ⟨s, hs⟩ : ∃ s, runO newO ops = s := ⟨_, rfl⟩
  obtain ⟨es, hes⟩ : ∃ es, errsO newO ops = es := ⟨_, rfl⟩
  have hel : es.length = n := by rw [← hes, errsO_len, hm.out]
  have HP1 := Lib.hid (fun X (HX : Hid (shO.At X ad cap ops)) => play_res hm hn (Lib.hid hes) (Lib.hid hs) ad cap X HX)
  have hgs : GoodO s := by rw [← hs]; exact good_runO good_newO
  have hal : (allO s).length ≤ n := by
    have h1 := all_len (ops := ops) good_newO
    rw [hs, hm.out] at h1
    have e0 : (allO newO).length = 0 := rfl
    omega
  have HS := Lib.hid hs
  have HES := Lib.hid hes
  have HEL := Lib.hid hel
  have HGS := Lib.hid hgs
  clear hs hes hel hgs
  have hd1 := done_le s
  have hw1 := wait_le s
  obtain ⟨d, c, l⟩ := s
  simp only at hd1 hw1
  obtain ⟨dn, hdn⟩ : ∃ q, d.length = q := ⟨_, rfl⟩
  obtain ⟨wn, hwn⟩ : ∃ q, l.length = q := ⟨_, rfl⟩
  unfold PlayOut at HP1
  simp only [hdn, hwn] at HP1
  rw [hdn] at hd1
  rw [hwn] at hw1
  have HDL := Lib.hid hdn
  have HWL := Lib.hid hwn
  have hwb : wn ≤ 9223372036854775807 := by omega
  have hwn4 : wn ≤ 400 := by omega
  clear hdn hwn hal
  have hcc : c = -1 ∨ 0 ≤ c := by have := HGS.out.now; simp only at this; omega
  rcases hcc with rfl | hc0
  · clear HS HES HEL HGS
    go_enter Try.func6, Try.ntmps6
    go_wp2_with (first
      | (go_at_call 12; (with_reducible refine (alive12_N _).mono ?_); rintro e w1 ⟨rfl, hb⟩; have B1 := Lib.hid hb; have A1 := Lib.hid (HA.out.step hb); clear hb)
      | (go_at_call 8; (with_reducible refine (HP1.out _ A1).mono ?_); rintro e w2 ⟨E, da, dc, wa, wc, rfl, hE, hD, hW, hdc, hwc, hb⟩; have B2 := Lib.hid (pstep B1.out hb); clear hb hE hD hW)
      | fail)
    go_ret
    exact ⟨rfl, B2.out⟩
  · have hcn : ¬ c < 0 := by omega
    by_cases hcl : c ∈ l
    · have HCL : Hid (true = decide (c ∈ l)) := Lib.hid (decide_eq_true hcl).symm
      clear HS HES HEL HGS hcl
      go_enter Try.func6, Try.ntmps6
      go_wp2_with (first
        | (go_at_call 12; (with_reducible refine (alive12_N _).mono ?_); rintro e w1 ⟨rfl, hb⟩; have B1 := Lib.hid hb; have A1 := Lib.hid (HA.out.step hb); clear hb)
        | (go_at_call 8; (with_reducible refine (HP1.out _ A1).mono ?_); rintro e w2 ⟨E, da, dc, wa, wc, rfl, hE, hD, hW, hdc, hwc, hb⟩; have B2 := Lib.hid (pstep B1.out hb); have W2 := Lib.hid hW; clear hb hE hD hW)
        | (go_at_call 15; (with_reducible refine (contains_Q _ _ W2 HWL hwb true HCL).mono ?_); rintro e w3 ⟨rfl, rfl⟩)
        | fail)
      go_ret
      exact ⟨rfl, B2.out⟩
    · have HCL : Hid (false = decide (c ∈ l)) := Lib.hid (decide_eq_false hcl).symm
      by_cases h398 : 398 < n
      · clear HS HES HEL HGS hcl
        have hd : decide ((398 : Int) < (n : Int)) = true := decide_eq_true (by omega)
        go_enter Try.func6, Try.ntmps6
        go_wp2_with (first
          | (go_at_call 12; (with_reducible refine (alive12_N _).mono ?_); rintro e w1 ⟨rfl, hb⟩; have B1 := Lib.hid hb; have A1 := Lib.hid (HA.out.step hb); clear hb)
          | (go_at_call 8; (with_reducible refine (HP1.out _ A1).mono ?_); rintro e w2 ⟨E, da, dc, wa, wc, rfl, hE, hD, hW, hdc, hwc, hb⟩; have B2 := Lib.hid (pstep B1.out hb); have W2 := Lib.hid hW; clear hb hE hD hW)
          | (go_at_call 15; (with_reducible refine (contains_Q _ _ W2 HWL hwb false HCL).mono ?_); rintro e w3 ⟨rfl, rfl⟩)
          | fail)
        go_ret
        exact ⟨rfl, B2.out⟩
      · have hd : decide ((398 : Int) < (n : Int)) = false := decide_eq_false (by omega)
        obtain ⟨g1, g2⟩ := again_O HGS.out (show ¬ c = -1 by omega) hcl
        have gc := again_count (s := ⟨d, c, l⟩) hcl
        simp only at g1 g2 gc
        obtain ⟨R, hR⟩ : ∃ R, c :: (l ++ [c]) = R := ⟨_, rfl⟩
        rw [hR] at g2 gc
        have hRl : R.length = wn + 2 := by rw [← hR, ← HWL.out]; simp
        have hs2 : runO newO (ops ++ [⟨1, c⟩, ⟨5, c⟩]) = ⟨d ++ R, -1, []⟩ := by rw [runO_append, HS.out, g2]
        obtain ⟨es2, hes2⟩ : ∃ es2, errsO newO (ops ++ [⟨1, c⟩, ⟨5, c⟩]) = es2 := ⟨_, rfl⟩
        have hxe : es2[n]? = some 0 := by
          rw [← hes2, errsO_append, HES.out, List.getElem?_append_right (by rw [HEL.out]; exact Nat.le_refl _), HEL.out, Nat.sub_self, HS.out, errsO, g1]
          rfl
        have hm2 : (ops ++ [(⟨1, c⟩ : WoT), ⟨5, c⟩]).length = n + 2 := by rw [List.length_append, hm.out]; rfl
        obtain ⟨tn, htn⟩ : ∃ tn, dn + (wn + 2) = tn := ⟨_, rfl⟩
        have hdR : (d ++ R).length = tn := by rw [List.length_append, HDL.out, hRl, htn]
        have HP2 := Lib.hid (fun (ra : Option Addr) (rc : Nat) X (HX : Hid (shO.At X ra rc (ops ++ [⟨1, c⟩, ⟨5, c⟩]))) => play_res (Lib.hid hm2) (by omega) (Lib.hid hes2) (Lib.hid hs2) ra rc X HX)
        unfold PlayOut at HP2
        simp only [hdR] at HP2
        have HXE := Lib.hid hxe
        have HM2 := Lib.hid hm2
        have HRL := Lib.hid hRl
        have HDR := Lib.hid hdR
        have HGC := Lib.hid gc
        have hn9 : n ≤ 8796093021952 := by omega
        have hmin : min (dn : Int) (tn : Int) = (dn : Int) := by omega
        have hRt : R.length = tn - dn := by omega
        have htb : tn - dn ≤ 1000 := by omega
        have HRT0 := Lib.hid hRt
        have hlt : dn < tn := by omega
        have hdrop : (d ++ R).drop dn = R := by rw [← HDL.out]; exact List.drop_left
        have HDP := Lib.hid hdrop
        clear HS HES HEL HGS hcl g1 g2 gc hR hRl hRt hs2 hes2 hxe hm2 hdR hdrop htn
        go_enter Try.func6, Try.ntmps6
        go_upto_region 8 with (first
          | (go_at_call 12; (with_reducible refine (alive12_N _).mono ?_); rintro e w1 ⟨rfl, hb⟩; have B1 := Lib.hid hb; have A1 := Lib.hid (HA.out.step hb); clear hb)
          | (go_at_call 8; (with_reducible refine (HP1.out _ A1).mono ?_); rintro e w2 ⟨E, da, dc, wa, wc, rfl, hE, hD, hW, hdc, hwc, hb⟩; have B2 := Lib.hid (pstep B1.out hb); have W2 := Lib.hid hW; have A2 := Lib.hid (A1.out.step hb); clear hb hE hD hW)
          | (go_at_call 15; (with_reducible refine (contains_Q _ _ W2 HWL hwb false HCL).mono ?_); rintro e w3 ⟨rfl, rfl⟩)
          | (go_at_call 14; (with_reducible refine (clone_W ops ad n cap _ hm A2 hn9).mono ?_); rintro e w3 ⟨ra3, rc3, rfl, own, hb⟩; have bx := below_alloc w3 (.cells #[.int .i64 1, .int .i64 c, .int .i64 5, .int .i64 c] 33); have O3 := Lib.hid (own_step own bx); have B3 := Lib.hid (pstep (pstep B2.out hb) bx); have N3 : Hid (shO.At (w3.alloc (.cells #[.int .i64 1, .int .i64 c, .int .i64 5, .int .i64 c] 33)) (some ⟨w3.heap.size, 0, none⟩) 2 [⟨1, c⟩, ⟨5, c⟩]) := Lib.hid (Shape.At.lit (S := shO) [⟨1, c⟩, ⟨5, c⟩] (heap_alloc_new w3 _)); have hs3 := Nat.le_trans hb.size bx.size; clear hb own bx)
          | (at_builtin; refine wpList_append_n shO rfl _ _ 22 rfl _ 33 i0 _ 16 Try.underlying22 hi hz0 hz1 hz2 rfl (.slice ra3 n rc3) n ops [⟨1, c⟩, ⟨5, c⟩] hm rfl O3.out (some ⟨w3.heap.size, 0, none⟩) 2 2 rfl (Lib.hid rfl) N3.out (by unfold maxLen; omega) (by omega) hs3 ?_; intro ra4 rc4 w4 own4 grow4 _; have P4 := Lib.hid (Shape.At.own (S := shO) own4 HM2.out); have B4 := Lib.hid (B3.out.grown grow4 B3.out.size (fun _ hq => Nat.le_trans B2.out.size (own_lt O3.out hq).1)); clear own4 grow4)
          | (go_at_call 8; (with_reducible refine (HP2.out ra4 rc4 _ P4).mono ?_); rintro e w5 ⟨E5, da5, dc5, wa5, wc5, rfl, hE, hD, hW, hdc5, hwc5, hb⟩; have B5 := Lib.hid (pstep B4.out hb); have E5' := Lib.hid hE; have D6 := Lib.hid hD; clear hb hE hD hW)
          | fail)
        obtain ⟨eb, eo, ee, heb, cx⟩ := at_int E5'.out HXE.out
        cases ee
        rw [Nat.zero_add] at cx
        obtain ⟨lb, lo, rfl, hlb, _⟩ := D6.out.2 (by rw [HDR.out]; omega)
        have RT := at_drop D6.out dn (dc5 - dn) (by rw [HDR.out]; omega)
        rw [HDP.out, show dn * shI.size = dn from Nat.mul_one dn] at RT
        have HRT := Lib.hid RT
        have hk0 : (0 : Int) ≤ (dn : Int) := by omega
        have hkt : (dn : Int) ≤ (tn : Int) := by omega
        have hkt2 : dn ≤ tn := by omega
        have hkc : (dn : Int) ≤ (dc5 : Int) := by omega
        have hkc2 : dn ≤ dc5 := by omega
        have hne : ¬ dn = dc5 := by omega
        have hne2 : ¬ dc5 = dn := by omega
        clear RT HP1 HP2
        go_wp2_with fail
        go_loop [13, 65] (fun y i => ∃ (k q : Nat), k ≤ tn - dn ∧ i = .int .i64 k ∧ y = .int .i64 q ∧ q ≤ k ∧ Hid ((R.take k).count c = q)) (fun _ i => tn - dn - (intOf i).toNat)
        case atStart => exact ⟨0, 0, Nat.zero_le _, rfl, rfl, Nat.le_refl _, Lib.hid rfl⟩
        case round =>
          obtain ⟨k, q, hk, rfl, rfl, hqk, HQ⟩ := hrel
          by_cases hlt2 : k < tn - dn
          · obtain ⟨x, hx⟩ : ∃ x, R[k]? = some x := ⟨R[k]'(by rw [HRT0.out]; exact hlt2), List.getElem?_eq_getElem _⟩
            have HN := Lib.hid (count_next (c := c) hx)
            obtain ⟨b, off, e0, _, c0⟩ := at_int HRT.out hx
            cases e0
            have hw : IntKind.i64.wrap ((q : Int) + 1) = (q : Int) + 1 := by rw [IntKind.wrap_i64]; omega
            clear hx
            by_cases hxc : x = c
            · subst hxc
              go_wp2_with fail
              go_round
              case rel => exact ⟨k + 1, q + 1, by omega, by go_num, by go_num, by omega, Lib.hid (by rw [HN.out, HQ.out, if_pos rfl])⟩
              case measure => simp [intOf]; omega
            · go_wp2_with fail
              go_round
              case rel => exact ⟨k + 1, q, by omega, by go_num, rfl, by omega, Lib.hid (by rw [HN.out, HQ.out, if_neg hxc]; rfl)⟩
              case measure => simp [intOf]; omega
          · obtain rfl : k = tn - dn := by omega
            have hq2 : q = 2 := by
              have := HQ.out
              rw [← HRT0.out, List.take_length, HGC.out] at this
              exact this.symm
            subst hq2
            clear hlt2 hk
            go_wp2_with fail
            go_ret
            exact ⟨rfl, B5.out⟩
end
theorem workAgain_walk (v : Value) (w : World) (h : ArgWos w v) : Calls Try.prog 6 #[v] w fun e w' => e = .returned (.bool true) ∧ Below w.heap.size w w' := by
  obtain ⟨a1, c1, l, rfl, hA, hn, _⟩ := h
  by_cases h4 : 400 < l.length
  · exact agn_bad w h4 hn
  · exact agn_ok w (Lib.hid hA) (Lib.hid rfl) (by omega)
end Go.Proofs.Ytlmkbgclogbpfaa
