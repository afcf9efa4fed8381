/- The walk of corebellref.FStep where a core frees; FStep for every lock and operation. -/
import Derived.Test.YtfepgebnaglkaaaTicFs
namespace Go.Proofs.Ytfepgebnaglkaaa
open Go.RowKit

set_option maxHeartbeats 4000000 in
set_option maxRecDepth 100000 in
theorem fstep_free (l : LockT) (n : Nat) (R Z : Array Value) (R9 : Array Value) (HR9 : Hid (R9 = lockRow (newT l 3 n))) (hz : ∀ w, (zeroValue 25).run Try.prog w = .ok (.agg Z) w) (HZ : Hid (Z = lockRow lz)) (HR : Hid (lockRow l = R)) (w : World) (HRT : Hid (Rt l)) (hn : n < 8) (hin : l.inn n = true) (nw : Int) (HX : Hid (l.now = nw)) (b0 : 0 ≤ nw) (b1 : nw ≤ 1099511627776) :
    Calls Try.prog 10 #[.agg R, .agg #[.int .i64 3, .int .i64 n]] w fun e w' => e = .returned (.tuple #[.agg R9, .bool false, .int .i64 0]) ∧ Below w.heap.size w w' := by
  have S0 := Lib.hid (sb_new w R Z 3 n)
  have HS : Hid (R.size = 18) := Lib.hid (by rw [← HR.out]; rfl)
  have HZS : Hid (Z.size = 18) := Lib.hid (by rw [HZ.out]; rfl)
  have HA : Hid (Z.all (·.oneCell') = true) := Lib.hid (by rw [HZ.out]; exact row_all _)
  have HB : Hid ((Try.prog.built 25 []) = some Z) := Lib.hid (by rw [HZ.out]; kernel_rfl)
  have hn' : (n : Int) < 8 := by omega
  have hn7 : ¬ 7 < (n : Int) := by omega
  have HS9 : Hid (R9.size = 18) := Lib.hid (by rw [HR9.out]; rfl)
  have HA9 : Hid (R9.all (·.oneCell') = true) := Lib.hid (by rw [HR9.out]; exact row_all _)
  obtain ⟨R1, h1⟩ : ∃ R1, R.setIfInBounds (2 + n) (.int .i64 (-1)) = R1 := ⟨_, rfl⟩
  obtain ⟨R2, h2⟩ : ∃ R2, R1.setIfInBounds (10 + n) (.bool false) = R2 := ⟨_, rfl⟩
  have e1 : R1 = lockRow { l with mine := upI l.mine n (-1) } := by rw [← h1, ← HR.out, set_mine l hn]
  have e2 : R2 = lockRow { l with mine := upI l.mine n (-1), inn := upB l.inn n false } := by rw [← h2, e1, set_inn _ hn]
  have h3 : R2.setIfInBounds 1 (.int .i64 (nw + 1)) = R9 := by rw [HR9.out, e2, set_now, new_free, HX.out]
  have H1 := Lib.hid h1
  have H2 := Lib.hid h2
  have H3 := Lib.hid h3
  have HR1 : Hid (R1[10 + n]? = some (.bool (l.inn n))) := Lib.hid (by rw [e1, lockRow_inn _ hn])
  have HR2 : Hid (R2[1]? = some (.int .i64 nw)) := Lib.hid (by rw [e2, ← HX.out]; rfl)
  clear h1 h2 h3 e1 e2
  go_enter Try.func10, Try.ntmps10
  go_wp2_with (first
    | (refine wpList_load_row rfl 25 _ rfl w.heap.size rfl 25 R (0, 0) _ S0.out.r Try.underlying25 rfl (by rw [size_lock, HS.out]) ?_)
    | (go_at_call 11; (with_reducible refine (queue_R l R HR _).mono ?_); rintro e w1 ⟨ra, rc, qs, b, rfl, hb1, hb2, hql, hat, hb⟩; have S1 := Lib.hid (S0.out.step hb); have G1 := S1.out.ops; have HB1 := Lib.hid hb1; have HB2 := Lib.hid hb2; have HAT := Lib.hid hat; clear hb hb1 hb2 hat)
    | fail)
  obtain ⟨m, hm⟩ : ∃ m, qs.length = m := ⟨_, rfl⟩
  rw [hm] at hql ⊢
  have HM := Lib.hid hm
  clear hm
  go_loop [9, 21] (fun x i => ∃ k : Nat, k ≤ m ∧ i = .int .i64 k ∧ x = .int .i64 (lastI qs n k)) (fun _ i => m - (intOf i).toNat)
  case atStart => exact ⟨0, by omega, rfl, rfl⟩
  case round =>
    obtain ⟨i, hi, rfl, rfl⟩ := hrel
    obtain ⟨a, ha⟩ : ∃ a, lastI qs n i = a := ⟨_, rfl⟩
    rw [ha]
    have HAA := Lib.hid ha
    clear ha
    by_cases hlt : i < m
    · obtain ⟨q, hq⟩ : ∃ q, qs[i]? = some q := ⟨qs[i]'(by rw [HM.out]; exact hlt), List.getElem?_eq_getElem _⟩
      obtain ⟨bb, off, rfl, _, cq⟩ := at_int HAT.out hq
      have HQ := Lib.hid hq
      clear hq
      by_cases e : q = n
      · have e1 : (q == n) = true := by simpa using e
        have HN : Hid (lastI qs n (i + 1) = i) := Lib.hid (by rw [lastI, if_pos (by rw [HQ.out, e])])
        clear e
        go_wp2_with fail
        go_round
        case rel => exact ⟨i + 1, by omega, by go_num, by rw [HN.out]⟩
        case measure => simp [intOf]; omega
      · have e1 : (q == n) = false := by simpa using e
        have HN : Hid (lastI qs n (i + 1) = a) := Lib.hid (by rw [lastI, if_neg (by rw [HQ.out]; intro h; exact e (Option.some.inj h)), HAA.out])
        clear e
        go_wp2_with fail
        go_round
        case rel => exact ⟨i + 1, by omega, by go_num, by rw [HN.out]⟩
        case measure => simp [intOf]; omega
    · obtain rfl : i = m := by omega
      have hb : b = true := HB1.out.2 HRT.out
      subst hb
      have ci := box_cells S1.out.r (10 + n) (.bool true) (by rw [← HR.out, lockRow_inn _ hn, hin])
      have cm := box_cells S1.out.r (2 + n) (.int .i64 (l.mine n)) (by rw [← HR.out, lockRow_mine _ hn])
      have cw := box_cells S1.out.r 1 (.int .i64 nw) (by rw [← HR.out, ← HX.out]; rfl)
      have f0 := S1.out.frozen
      clear HAA
      go_wp2_with fail
      go_region
      go_wp2_with (first
        | (refine wpList_load_row rfl 25 _ rfl w.heap.size rfl 25 R9 (0, 0) _ (by rw [heap_drew, ← H3.out]; exact heap_setCell_same _ _ _ _ _ _ (by rw [← H2.out]; exact heap_setCell_same _ _ _ _ _ _ (by rw [← H1.out]; exact heap_setCell_same _ _ _ _ _ _ S1.out.r))) Try.underlying25 rfl (by rw [size_lock, HS9.out]) ?_)
        | (refine wpList_store_row rfl 25 _ _ rfl (w.heap.size + 1 + 1) R9 rfl rfl 25 Z (by rw [heap_drew]; exact set_other (by omega) _ _ (set_other (by omega) _ _ (set_other (by omega) _ _ S1.out.z))) (by rw [size_lock, HS9.out]) (by rw [HZS.out, HS9.out]) HA9.out ?_; intro w4 hw4)
        | fail)
      refine bodyPost_ret (results_row_tmp2 rfl _ _ (w.heap.size + 1 + 1) 25 R9 (0, 0) _ rfl hw4.put Try.underlying25 rfl (by rw [size_lock, HS9.out])) rfl ⟨rfl, ((set_below (set_below (set_below S1.out.b _ _) _ _) _ _).drew).trans (hw4.below _ (by omega))⟩
/-- corebellref.FStep, for every lock and operation. -/
theorem fstep_R (l : LockT) (k c : Int) (R R' : Array Value) (t : Bool) (x : Int) (l' : LockT) (HR : Hid (lockRow l = R)) (HR' : Hid (lockRow l' = R')) (H : Hid (stepT l k c = (l', t, x))) (w : World) :
    Calls Try.prog 10 #[.agg R, .agg #[.int .i64 k, .int .i64 c]] w fun e w' => e = .returned (.tuple #[.agg R', .bool t, .int .i64 x]) ∧ Below w.heap.size w w' := by
  have h := H.out
  have hz := (zero_of_info info_lock).1
  unfold stepT at h
  by_cases hr : Rt l
  · have HRT := Lib.hid hr
    have ho := okT_true.2 hr
    rw [ho] at h
    by_cases he : errT true l k c = 0
    · rw [if_pos he] at h
      simp only [Prod.mk.injEq] at h
      obtain ⟨rfl, rfl, rfl⟩ := h
      obtain ⟨n, rfl, hn, hop⟩ := errT_zero hr he
      rw [Int.toNat_natCast] at HR' ⊢
      have hlo := hr.lo
      have hle := hr.le
      have hhi := hr.hi
      rcases hop with ⟨rfl, h1, h2⟩ | ⟨rfl, h1⟩ | ⟨rfl, h1⟩
      · rw [in_ask hr hn h1]
        exact fstep_ask l n R _ R' (Lib.hid HR'.out.symm) hz (Lib.hid rfl) HR w HRT hn h1 _ (Lib.hid rfl) (by omega) (by omega)
      · rw [in_look]
        exact fstep_look l n R _ R' (Lib.hid HR'.out.symm) hz (Lib.hid rfl) HR w HRT hn h1 _ (Lib.hid rfl)
      · rw [in_free]
        exact fstep_free l n R _ R' (Lib.hid HR'.out.symm) hz (Lib.hid rfl) HR w HRT hn h1 _ (Lib.hid rfl) (by omega) (by omega)
    · rw [if_neg he] at h
      simp only [Prod.mk.injEq] at h
      obtain ⟨rfl, rfl, rfl⟩ := h
      rw [← HR'.out]
      by_cases hk : k = 1 ∨ k = 2 ∨ k = 3
      · by_cases hc : c < 0 ∨ 7 < c
        · rw [errT_range hk hc]
          rcases hk with rfl | rfl | rfl <;> rcases hc with hc | hc
          · exact fstep_lo1 l c R _ hz (Lib.hid rfl) HR w HRT hc
          · exact fstep_hi1 l c R _ hz (Lib.hid rfl) HR w HRT hc
          · exact fstep_lo2 l c R _ hz (Lib.hid rfl) HR w HRT hc
          · exact fstep_hi2 l c R _ hz (Lib.hid rfl) HR w HRT hc
          · exact fstep_lo3 l c R _ hz (Lib.hid rfl) HR w HRT hc
          · exact fstep_hi3 l c R _ hz (Lib.hid rfl) HR w HRT hc
        · obtain ⟨n, rfl⟩ : ∃ n : Nat, c = n := ⟨c.toNat, by omega⟩
          have hn : n < 8 := by omega
          rcases hk with rfl | rfl | rfl
          · rw [errT_ask hn] at he ⊢
            by_cases hm : l.mine n = -1
            · rw [if_pos hm] at he ⊢
              by_cases hx : l.next = 1099511627776
              · rw [if_pos hx]
                exact fstep_full l n R _ hz (Lib.hid rfl) HR w HRT hn hm hx
              · rw [if_neg hx] at he
                exact absurd rfl he
            · rw [if_neg hm]
              exact fstep_held l n R _ hz (Lib.hid rfl) HR w HRT hn hm
          · rw [errT_look hn] at he ⊢
            by_cases hm : l.mine n = -1
            · rw [if_pos hm]
              exact fstep_none2 l n R _ hz (Lib.hid rfl) HR w HRT hn hm
            · rw [if_neg hm] at he
              exact absurd rfl he
          · rw [errT_free hn] at he ⊢
            by_cases hm : l.inn n = false
            · rw [if_pos hm]
              exact fstep_none3 l n R _ hz (Lib.hid rfl) HR w HRT hn hm
            · rw [if_neg hm] at he
              exact absurd rfl he
      · rw [errT_kind hk]
        exact fstep_kind l k c R _ hz (Lib.hid rfl) HR w HRT hk
  · have ho := okT_false hr
    rw [ho, errT_no, if_neg (by decide)] at h
    simp only [Prod.mk.injEq] at h
    obtain ⟨rfl, rfl, rfl⟩ := h
    rw [← HR'.out]
    exact fstep_form l k c R _ hz (Lib.hid rfl) HR w (Lib.hid hr)
end Go.Proofs.Ytfepgebnaglkaaa
