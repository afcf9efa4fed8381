/- The walk of corebellref.FStep. -/
import Derived.Test.YtfepgebnaglkaaaTicFq
import Derived.RegionTactic
namespace Go.Proofs.Ytfepgebnaglkaaa
open Go.RowKit

/-- The last place of c among the first k of a list; -1: none. -/
def lastI (qs : List Int) (c : Int) : Nat → Int
  | 0 => -1
  | k + 1 => if qs[k]? = some c then k else lastI qs c k
theorem lastI_cases (qs : List Int) (c : Int) : ∀ k, (lastI qs c k = -1 ∧ ∀ i, i < k → ¬ qs[i]? = some c) ∨ (∃ i : Nat, i < k ∧ lastI qs c k = i ∧ qs[i]? = some c)
  | 0 => Or.inl ⟨rfl, fun i hi => by omega⟩
  | k + 1 => by
    rw [lastI]
    by_cases h : qs[k]? = some c
    · rw [if_pos h]
      exact Or.inr ⟨k, by omega, rfl, h⟩
    · rw [if_neg h]
      rcases lastI_cases qs c k with ⟨h1, h2⟩ | ⟨i, hi, h1, h2⟩
      · refine Or.inl ⟨h1, fun i hi => ?_⟩
        by_cases e : i = k
        · rw [e]; exact h
        · exact h2 i (by omega)
      · exact Or.inr ⟨i, by omega, h1, h2⟩
theorem qI_get {m : Nat → Int} {a : Int} {j i n : Nat} : (qI m a j)[i]? = some (n : Int) ↔ (queT m a j)[i]? = some n := by
  rw [qI, List.getElem?_map]
  cases h : (queT m a j)[i]? with
  | none => simp
  | some d => simp; omega
theorem last_rt {l : LockT} (h : Rt l) {j n : Nat} (hj : l.next - l.now = j) (hn : n < 8) : lastI (qI l.mine l.now j) n (qI l.mine l.now j).length = if l.mine n = -1 then -1 else l.mine n - l.now := by
  obtain ⟨h1, h2⟩ := rt_que h j (by omega)
  have h0 := h.lo
  by_cases hm : l.mine n = -1
  · rw [if_pos hm]
    rcases lastI_cases (qI l.mine l.now j) n (qI l.mine l.now j).length with ⟨e, _⟩ | ⟨i, _, _, e⟩
    · exact e
    · have := h2 i n (qI_get.1 e)
      omega
  · rw [if_neg hm]
    have hr := h.rng n hn
    have hmem : n ∈ queT l.mine l.now j := queT_mem.2 ⟨hn, by omega, by omega⟩
    obtain ⟨i, hi⟩ := List.mem_iff_getElem?.1 hmem
    have hil := (List.getElem?_eq_some_iff.1 hi).1
    rcases lastI_cases (qI l.mine l.now j) n (qI l.mine l.now j).length with ⟨_, e⟩ | ⟨i, _, e1, e⟩
    · exact absurd (qI_get.2 hi) (e i (by rw [qI, List.length_map]; exact hil))
    · have := h2 i n (qI_get.1 e)
      omega
theorem Sb.frozen {w wx : World} {R Z : Array Value} {k c : Int} (h : Sb w wx R Z k c) (i : Nat) : wx.frozen? ⟨w.heap.size, i, none⟩ = false := frozen_of_row _ _ _ _ _ h.r
/-- What the end of FStep needs: the row of the lock that has become of it. -/
theorem set_below {w wx : World} (h : Below w.heap.size w wx) (i : Nat) (v : Value) : Below w.heap.size w (wx.setCell ⟨w.heap.size, i, none⟩ v) := h.setCell (p := ⟨w.heap.size, i, none⟩) (Nat.le_refl _) v
theorem set_other {wx : World} {b c : Nat} (hne : ¬ c = b) (i : Nat) (v : Value) {o : Obj} (h : wx.heap[c]? = some o) : (wx.setCell ⟨b, i, none⟩ v).heap[c]? = some o := by
  rw [heap_setCell_other _ _ _ _ (show c ≠ (⟨b, i, none⟩ : Addr).block from hne)]; exact h
set_option maxHeartbeats 4000000 in
set_option maxRecDepth 100000 in
theorem fstep_form (l : LockT) (k c : Int) (R Z : Array Value) (hz : ∀ w, (zeroValue 25).run Try.prog w = .ok (.agg Z) w) (HZ : Hid (Z = lockRow lz)) (HR : Hid (lockRow l = R)) (w : World) (HRT : Hid (¬ Rt l)) :
    Calls Try.prog 10 #[.agg R, .agg #[.int .i64 k, .int .i64 c]] w fun e w' => e = .returned (.tuple #[.agg Z, .bool false, .int .i64 1]) ∧ Below w.heap.size w w' := by
  have S0 := Lib.hid (sb_new w R Z k c)
  have HS : Hid (R.size = 18) := Lib.hid (by rw [← HR.out]; rfl)
  have HZS : Hid (Z.size = 18) := Lib.hid (by rw [HZ.out]; rfl)
  have HA : Hid (Z.all (·.oneCell') = true) := Lib.hid (by rw [HZ.out]; exact row_all _)
  have HB : Hid ((Try.prog.built 25 []) = some Z) := Lib.hid (by rw [HZ.out]; kernel_rfl)
  go_enter Try.func10, Try.ntmps10
  go_wp2_with (first
    | (refine wpList_load_row rfl 25 _ rfl w.heap.size rfl 25 R (0, 0) _ S0.out.r Try.underlying25 rfl (by rw [size_lock, HS.out]) ?_)
    | (go_at_call 11; (with_reducible refine (queue_R l R HR _).mono ?_); rintro e w1 ⟨ra, rc, qs, b, rfl, hb1, hb2, hql, hat, hb⟩; have S1 := Lib.hid (S0.out.step hb); have G1 := S1.out.ops; have HB1 := Lib.hid hb1; have HB2 := Lib.hid hb2; have HAT := Lib.hid hat; clear hb hb1 hb2 hat)
    | fail)
  obtain ⟨m, hm⟩ : ∃ m, qs.length = m := ⟨_, rfl⟩
  rw [hm] at hql ⊢
  have HM := Lib.hid hm
  clear hm
  go_loop [9, 21] (fun x i => ∃ k : Nat, k ≤ m ∧ i = .int .i64 k ∧ x = .int .i64 (lastI qs c k)) (fun _ i => m - (intOf i).toNat)
  case atStart => exact ⟨0, by omega, rfl, rfl⟩
  case round =>
    obtain ⟨i, hi, rfl, rfl⟩ := hrel
    obtain ⟨a, ha⟩ : ∃ a, lastI qs c i = a := ⟨_, rfl⟩
    rw [ha]
    have HAA := Lib.hid ha
    clear ha
    by_cases hlt : i < m
    · obtain ⟨q, hq⟩ : ∃ q, qs[i]? = some q := ⟨qs[i]'(by rw [HM.out]; exact hlt), List.getElem?_eq_getElem _⟩
      obtain ⟨bb, off, rfl, _, cq⟩ := at_int HAT.out hq
      have HQ := Lib.hid hq
      clear hq
      by_cases e : q = c
      · have e1 : (q == c) = true := by simpa using e
        have HN : Hid (lastI qs c (i + 1) = i) := Lib.hid (by rw [lastI, if_pos (by rw [HQ.out, e])])
        clear e
        go_wp2_with fail
        go_round
        case rel => exact ⟨i + 1, by omega, by go_num, by rw [HN.out]⟩
        case measure => simp [intOf]; omega
      · have e1 : (q == c) = false := by simpa using e
        have HN : Hid (lastI qs c (i + 1) = a) := Lib.hid (by rw [lastI, if_neg (by rw [HQ.out]; intro h; exact e (Option.some.inj h)), HAA.out])
        clear e
        go_wp2_with fail
        go_round
        case rel => exact ⟨i + 1, by omega, by go_num, by rw [HN.out]⟩
        case measure => simp [intOf]; omega
    · obtain rfl : i = m := by omega
      have hb : b = false := by
        cases b with
        | false => rfl
        | true => exact absurd (HB1.out.1 rfl) HRT.out
      subst hb
      go_wp2_with (first
        | (refine wpList_build_row rfl 25 _ rfl Z HB.out ?_)
        | (refine wpList_store_row rfl 25 _ _ rfl (w.heap.size + 1 + 1) Z rfl rfl 25 Z S1.out.z (by rw [size_lock, HZS.out]) rfl HA.out ?_; intro w4 hw4)
        | fail)
      refine bodyPost_ret (results_row_tmp2 rfl _ _ (w.heap.size + 1 + 1) 25 Z (0, 0) _ rfl hw4.put Try.underlying25 rfl (by rw [size_lock, HZS.out])) rfl ⟨rfl, S1.out.b.trans (hw4.below _ (by omega))⟩
set_option maxHeartbeats 4000000 in
set_option maxRecDepth 100000 in
theorem fstep_kind (l : LockT) (k c : Int) (R Z : Array Value) (hz : ∀ w, (zeroValue 25).run Try.prog w = .ok (.agg Z) w) (HZ : Hid (Z = lockRow lz)) (HR : Hid (lockRow l = R)) (w : World) (HRT : Hid (Rt l)) (hk : ¬ (k = 1 ∨ k = 2 ∨ k = 3)) :
    Calls Try.prog 10 #[.agg R, .agg #[.int .i64 k, .int .i64 c]] w fun e w' => e = .returned (.tuple #[.agg Z, .bool false, .int .i64 5]) ∧ Below w.heap.size w w' := by
  have S0 := Lib.hid (sb_new w R Z k c)
  have HS : Hid (R.size = 18) := Lib.hid (by rw [← HR.out]; rfl)
  have HZS : Hid (Z.size = 18) := Lib.hid (by rw [HZ.out]; rfl)
  have HA : Hid (Z.all (·.oneCell') = true) := Lib.hid (by rw [HZ.out]; exact row_all _)
  have HB : Hid ((Try.prog.built 25 []) = some Z) := Lib.hid (by rw [HZ.out]; kernel_rfl)
  have g1 : (k != 1) = true := by simp; omega
  have g2 : (k != 2) = true := by simp; omega
  have g3 : (k != 3) = true := by simp; omega
  clear hk
  go_enter Try.func10, Try.ntmps10
  go_wp2_with (first
    | (refine wpList_load_row rfl 25 _ rfl w.heap.size rfl 25 R (0, 0) _ S0.out.r Try.underlying25 rfl (by rw [size_lock, HS.out]) ?_)
    | (go_at_call 11; (with_reducible refine (queue_R l R HR _).mono ?_); rintro e w1 ⟨ra, rc, qs, b, rfl, hb1, hb2, hql, hat, hb⟩; have S1 := Lib.hid (S0.out.step hb); have G1 := S1.out.ops; have HB1 := Lib.hid hb1; have HB2 := Lib.hid hb2; have HAT := Lib.hid hat; clear hb hb1 hb2 hat)
    | fail)
  obtain ⟨m, hm⟩ : ∃ m, qs.length = m := ⟨_, rfl⟩
  rw [hm] at hql ⊢
  have HM := Lib.hid hm
  clear hm
  go_loop [9, 21] (fun x i => ∃ k : Nat, k ≤ m ∧ i = .int .i64 k ∧ x = .int .i64 (lastI qs c k)) (fun _ i => m - (intOf i).toNat)
  case atStart => exact ⟨0, by omega, rfl, rfl⟩
  case round =>
    obtain ⟨i, hi, rfl, rfl⟩ := hrel
    obtain ⟨a, ha⟩ : ∃ a, lastI qs c i = a := ⟨_, rfl⟩
    rw [ha]
    have HAA := Lib.hid ha
    clear ha
    by_cases hlt : i < m
    · obtain ⟨q, hq⟩ : ∃ q, qs[i]? = some q := ⟨qs[i]'(by rw [HM.out]; exact hlt), List.getElem?_eq_getElem _⟩
      obtain ⟨bb, off, rfl, _, cq⟩ := at_int HAT.out hq
      have HQ := Lib.hid hq
      clear hq
      by_cases e : q = c
      · have e1 : (q == c) = true := by simpa using e
        have HN : Hid (lastI qs c (i + 1) = i) := Lib.hid (by rw [lastI, if_pos (by rw [HQ.out, e])])
        clear e
        go_wp2_with fail
        go_round
        case rel => exact ⟨i + 1, by omega, by go_num, by rw [HN.out]⟩
        case measure => simp [intOf]; omega
      · have e1 : (q == c) = false := by simpa using e
        have HN : Hid (lastI qs c (i + 1) = a) := Lib.hid (by rw [lastI, if_neg (by rw [HQ.out]; intro h; exact e (Option.some.inj h)), HAA.out])
        clear e
        go_wp2_with fail
        go_round
        case rel => exact ⟨i + 1, by omega, by go_num, by rw [HN.out]⟩
        case measure => simp [intOf]; omega
    · obtain rfl : i = m := by omega
      have hb : b = true := HB1.out.2 HRT.out
      subst hb
      go_wp2_with (first
        | (refine wpList_build_row rfl 25 _ rfl Z HB.out ?_)
        | (refine wpList_store_row rfl 25 _ _ rfl (w.heap.size + 1 + 1) Z rfl rfl 25 Z S1.out.z (by rw [size_lock, HZS.out]) rfl HA.out ?_; intro w4 hw4)
        | fail)
      refine bodyPost_ret (results_row_tmp2 rfl _ _ (w.heap.size + 1 + 1) 25 Z (0, 0) _ rfl hw4.put Try.underlying25 rfl (by rw [size_lock, HZS.out])) rfl ⟨rfl, S1.out.b.trans (hw4.below _ (by omega))⟩
set_option maxHeartbeats 4000000 in
set_option maxRecDepth 100000 in
theorem fstep_lo1 (l : LockT) (c : Int) (R Z : Array Value) (hz : ∀ w, (zeroValue 25).run Try.prog w = .ok (.agg Z) w) (HZ : Hid (Z = lockRow lz)) (HR : Hid (lockRow l = R)) (w : World) (HRT : Hid (Rt l)) (hc : c < 0) :
    Calls Try.prog 10 #[.agg R, .agg #[.int .i64 1, .int .i64 c]] w fun e w' => e = .returned (.tuple #[.agg Z, .bool false, .int .i64 2]) ∧ Below w.heap.size w w' := by
  have S0 := Lib.hid (sb_new w R Z 1 c)
  have HS : Hid (R.size = 18) := Lib.hid (by rw [← HR.out]; rfl)
  have HZS : Hid (Z.size = 18) := Lib.hid (by rw [HZ.out]; rfl)
  have HA : Hid (Z.all (·.oneCell') = true) := Lib.hid (by rw [HZ.out]; exact row_all _)
  have HB : Hid ((Try.prog.built 25 []) = some Z) := Lib.hid (by rw [HZ.out]; kernel_rfl)
  go_enter Try.func10, Try.ntmps10
  go_wp2_with (first
    | (refine wpList_load_row rfl 25 _ rfl w.heap.size rfl 25 R (0, 0) _ S0.out.r Try.underlying25 rfl (by rw [size_lock, HS.out]) ?_)
    | (go_at_call 11; (with_reducible refine (queue_R l R HR _).mono ?_); rintro e w1 ⟨ra, rc, qs, b, rfl, hb1, hb2, hql, hat, hb⟩; have S1 := Lib.hid (S0.out.step hb); have G1 := S1.out.ops; have HB1 := Lib.hid hb1; have HB2 := Lib.hid hb2; have HAT := Lib.hid hat; clear hb hb1 hb2 hat)
    | fail)
  obtain ⟨m, hm⟩ : ∃ m, qs.length = m := ⟨_, rfl⟩
  rw [hm] at hql ⊢
  have HM := Lib.hid hm
  clear hm
  go_loop [9, 21] (fun x i => ∃ k : Nat, k ≤ m ∧ i = .int .i64 k ∧ x = .int .i64 (lastI qs c k)) (fun _ i => m - (intOf i).toNat)
  case atStart => exact ⟨0, by omega, rfl, rfl⟩
  case round =>
    obtain ⟨i, hi, rfl, rfl⟩ := hrel
    obtain ⟨a, ha⟩ : ∃ a, lastI qs c i = a := ⟨_, rfl⟩
    rw [ha]
    have HAA := Lib.hid ha
    clear ha
    by_cases hlt : i < m
    · obtain ⟨q, hq⟩ : ∃ q, qs[i]? = some q := ⟨qs[i]'(by rw [HM.out]; exact hlt), List.getElem?_eq_getElem _⟩
      obtain ⟨bb, off, rfl, _, cq⟩ := at_int HAT.out hq
      have HQ := Lib.hid hq
      clear hq
      by_cases e : q = c
      · have e1 : (q == c) = true := by simpa using e
        have HN : Hid (lastI qs c (i + 1) = i) := Lib.hid (by rw [lastI, if_pos (by rw [HQ.out, e])])
        clear e
        go_wp2_with fail
        go_round
        case rel => exact ⟨i + 1, by omega, by go_num, by rw [HN.out]⟩
        case measure => simp [intOf]; omega
      · have e1 : (q == c) = false := by simpa using e
        have HN : Hid (lastI qs c (i + 1) = a) := Lib.hid (by rw [lastI, if_neg (by rw [HQ.out]; intro h; exact e (Option.some.inj h)), HAA.out])
        clear e
        go_wp2_with fail
        go_round
        case rel => exact ⟨i + 1, by omega, by go_num, by rw [HN.out]⟩
        case measure => simp [intOf]; omega
    · obtain rfl : i = m := by omega
      have hb : b = true := HB1.out.2 HRT.out
      subst hb
      go_wp2_with (first
        | (refine wpList_build_row rfl 25 _ rfl Z HB.out ?_)
        | (refine wpList_store_row rfl 25 _ _ rfl (w.heap.size + 1 + 1) Z rfl rfl 25 Z S1.out.z (by rw [size_lock, HZS.out]) rfl HA.out ?_; intro w4 hw4)
        | fail)
      refine bodyPost_ret (results_row_tmp2 rfl _ _ (w.heap.size + 1 + 1) 25 Z (0, 0) _ rfl hw4.put Try.underlying25 rfl (by rw [size_lock, HZS.out])) rfl ⟨rfl, S1.out.b.trans (hw4.below _ (by omega))⟩
set_option maxHeartbeats 4000000 in
set_option maxRecDepth 100000 in
theorem fstep_lo2 (l : LockT) (c : Int) (R Z : Array Value) (hz : ∀ w, (zeroValue 25).run Try.prog w = .ok (.agg Z) w) (HZ : Hid (Z = lockRow lz)) (HR : Hid (lockRow l = R)) (w : World) (HRT : Hid (Rt l)) (hc : c < 0) :
    Calls Try.prog 10 #[.agg R, .agg #[.int .i64 2, .int .i64 c]] w fun e w' => e = .returned (.tuple #[.agg Z, .bool false, .int .i64 2]) ∧ Below w.heap.size w w' := by
  have S0 := Lib.hid (sb_new w R Z 2 c)
  have HS : Hid (R.size = 18) := Lib.hid (by rw [← HR.out]; rfl)
  have HZS : Hid (Z.size = 18) := Lib.hid (by rw [HZ.out]; rfl)
  have HA : Hid (Z.all (·.oneCell') = true) := Lib.hid (by rw [HZ.out]; exact row_all _)
  have HB : Hid ((Try.prog.built 25 []) = some Z) := Lib.hid (by rw [HZ.out]; kernel_rfl)
  go_enter Try.func10, Try.ntmps10
  go_wp2_with (first
    | (refine wpList_load_row rfl 25 _ rfl w.heap.size rfl 25 R (0, 0) _ S0.out.r Try.underlying25 rfl (by rw [size_lock, HS.out]) ?_)
    | (go_at_call 11; (with_reducible refine (queue_R l R HR _).mono ?_); rintro e w1 ⟨ra, rc, qs, b, rfl, hb1, hb2, hql, hat, hb⟩; have S1 := Lib.hid (S0.out.step hb); have G1 := S1.out.ops; have HB1 := Lib.hid hb1; have HB2 := Lib.hid hb2; have HAT := Lib.hid hat; clear hb hb1 hb2 hat)
    | fail)
  obtain ⟨m, hm⟩ : ∃ m, qs.length = m := ⟨_, rfl⟩
  rw [hm] at hql ⊢
  have HM := Lib.hid hm
  clear hm
  go_loop [9, 21] (fun x i => ∃ k : Nat, k ≤ m ∧ i = .int .i64 k ∧ x = .int .i64 (lastI qs c k)) (fun _ i => m - (intOf i).toNat)
  case atStart => exact ⟨0, by omega, rfl, rfl⟩
  case round =>
    obtain ⟨i, hi, rfl, rfl⟩ := hrel
    obtain ⟨a, ha⟩ : ∃ a, lastI qs c i = a := ⟨_, rfl⟩
    rw [ha]
    have HAA := Lib.hid ha
    clear ha
    by_cases hlt : i < m
    · obtain ⟨q, hq⟩ : ∃ q, qs[i]? = some q := ⟨qs[i]'(by rw [HM.out]; exact hlt), List.getElem?_eq_getElem _⟩
      obtain ⟨bb, off, rfl, _, cq⟩ := at_int HAT.out hq
      have HQ := Lib.hid hq
      clear hq
      by_cases e : q = c
      · have e1 : (q == c) = true := by simpa using e
        have HN : Hid (lastI qs c (i + 1) = i) := Lib.hid (by rw [lastI, if_pos (by rw [HQ.out, e])])
        clear e
        go_wp2_with fail
        go_round
        case rel => exact ⟨i + 1, by omega, by go_num, by rw [HN.out]⟩
        case measure => simp [intOf]; omega
      · have e1 : (q == c) = false := by simpa using e
        have HN : Hid (lastI qs c (i + 1) = a) := Lib.hid (by rw [lastI, if_neg (by rw [HQ.out]; intro h; exact e (Option.some.inj h)), HAA.out])
        clear e
        go_wp2_with fail
        go_round
        case rel => exact ⟨i + 1, by omega, by go_num, by rw [HN.out]⟩
        case measure => simp [intOf]; omega
    · obtain rfl : i = m := by omega
      have hb : b = true := HB1.out.2 HRT.out
      subst hb
      go_wp2_with (first
        | (refine wpList_build_row rfl 25 _ rfl Z HB.out ?_)
        | (refine wpList_store_row rfl 25 _ _ rfl (w.heap.size + 1 + 1) Z rfl rfl 25 Z S1.out.z (by rw [size_lock, HZS.out]) rfl HA.out ?_; intro w4 hw4)
        | fail)
      refine bodyPost_ret (results_row_tmp2 rfl _ _ (w.heap.size + 1 + 1) 25 Z (0, 0) _ rfl hw4.put Try.underlying25 rfl (by rw [size_lock, HZS.out])) rfl ⟨rfl, S1.out.b.trans (hw4.below _ (by omega))⟩
set_option maxHeartbeats 4000000 in
set_option maxRecDepth 100000 in
theorem fstep_lo3 (l : LockT) (c : Int) (R Z : Array Value) (hz : ∀ w, (zeroValue 25).run Try.prog w = .ok (.agg Z) w) (HZ : Hid (Z = lockRow lz)) (HR : Hid (lockRow l = R)) (w : World) (HRT : Hid (Rt l)) (hc : c < 0) :
    Calls Try.prog 10 #[.agg R, .agg #[.int .i64 3, .int .i64 c]] w fun e w' => e = .returned (.tuple #[.agg Z, .bool false, .int .i64 2]) ∧ Below w.heap.size w w' := by
  have S0 := Lib.hid (sb_new w R Z 3 c)
  have HS : Hid (R.size = 18) := Lib.hid (by rw [← HR.out]; rfl)
  have HZS : Hid (Z.size = 18) := Lib.hid (by rw [HZ.out]; rfl)
  have HA : Hid (Z.all (·.oneCell') = true) := Lib.hid (by rw [HZ.out]; exact row_all _)
  have HB : Hid ((Try.prog.built 25 []) = some Z) := Lib.hid (by rw [HZ.out]; kernel_rfl)
  go_enter Try.func10, Try.ntmps10
  go_wp2_with (first
    | (refine wpList_load_row rfl 25 _ rfl w.heap.size rfl 25 R (0, 0) _ S0.out.r Try.underlying25 rfl (by rw [size_lock, HS.out]) ?_)
    | (go_at_call 11; (with_reducible refine (queue_R l R HR _).mono ?_); rintro e w1 ⟨ra, rc, qs, b, rfl, hb1, hb2, hql, hat, hb⟩; have S1 := Lib.hid (S0.out.step hb); have G1 := S1.out.ops; have HB1 := Lib.hid hb1; have HB2 := Lib.hid hb2; have HAT := Lib.hid hat; clear hb hb1 hb2 hat)
    | fail)
  obtain ⟨m, hm⟩ : ∃ m, qs.length = m := ⟨_, rfl⟩
  rw [hm] at hql ⊢
  have HM := Lib.hid hm
  clear hm
  go_loop [9, 21] (fun x i => ∃ k : Nat, k ≤ m ∧ i = .int .i64 k ∧ x = .int .i64 (lastI qs c k)) (fun _ i => m - (intOf i).toNat)
  case atStart => exact ⟨0, by omega, rfl, rfl⟩
  case round =>
    obtain ⟨i, hi, rfl, rfl⟩ := hrel
    obtain ⟨a, ha⟩ : ∃ a, lastI qs c i = a := ⟨_, rfl⟩
    rw [ha]
    have HAA := Lib.hid ha
    clear ha
    by_cases hlt : i < m
    · obtain ⟨q, hq⟩ : ∃ q, qs[i]? = some q := ⟨qs[i]'(by rw [HM.out]; exact hlt), List.getElem?_eq_getElem _⟩
      obtain ⟨bb, off, rfl, _, cq⟩ := at_int HAT.out hq
      have HQ := Lib.hid hq
      clear hq
      by_cases e : q = c
      · have e1 : (q == c) = true := by simpa using e
        have HN : Hid (lastI qs c (i + 1) = i) := Lib.hid (by rw [lastI, if_pos (by rw [HQ.out, e])])
        clear e
        go_wp2_with fail
        go_round
        case rel => exact ⟨i + 1, by omega, by go_num, by rw [HN.out]⟩
        case measure => simp [intOf]; omega
      · have e1 : (q == c) = false := by simpa using e
        have HN : Hid (lastI qs c (i + 1) = a) := Lib.hid (by rw [lastI, if_neg (by rw [HQ.out]; intro h; exact e (Option.some.inj h)), HAA.out])
        clear e
        go_wp2_with fail
        go_round
        case rel => exact ⟨i + 1, by omega, by go_num, by rw [HN.out]⟩
        case measure => simp [intOf]; omega
    · obtain rfl : i = m := by omega
      have hb : b = true := HB1.out.2 HRT.out
      subst hb
      go_wp2_with (first
        | (refine wpList_build_row rfl 25 _ rfl Z HB.out ?_)
        | (refine wpList_store_row rfl 25 _ _ rfl (w.heap.size + 1 + 1) Z rfl rfl 25 Z S1.out.z (by rw [size_lock, HZS.out]) rfl HA.out ?_; intro w4 hw4)
        | fail)
      refine bodyPost_ret (results_row_tmp2 rfl _ _ (w.heap.size + 1 + 1) 25 Z (0, 0) _ rfl hw4.put Try.underlying25 rfl (by rw [size_lock, HZS.out])) rfl ⟨rfl, S1.out.b.trans (hw4.below _ (by omega))⟩
set_option maxHeartbeats 4000000 in
set_option maxRecDepth 100000 in
theorem fstep_hi1 (l : LockT) (c : Int) (R Z : Array Value) (hz : ∀ w, (zeroValue 25).run Try.prog w = .ok (.agg Z) w) (HZ : Hid (Z = lockRow lz)) (HR : Hid (lockRow l = R)) (w : World) (HRT : Hid (Rt l)) (hc : 7 < c) :
    Calls Try.prog 10 #[.agg R, .agg #[.int .i64 1, .int .i64 c]] w fun e w' => e = .returned (.tuple #[.agg Z, .bool false, .int .i64 2]) ∧ Below w.heap.size w w' := by
  have S0 := Lib.hid (sb_new w R Z 1 c)
  have HS : Hid (R.size = 18) := Lib.hid (by rw [← HR.out]; rfl)
  have HZS : Hid (Z.size = 18) := Lib.hid (by rw [HZ.out]; rfl)
  have HA : Hid (Z.all (·.oneCell') = true) := Lib.hid (by rw [HZ.out]; exact row_all _)
  have HB : Hid ((Try.prog.built 25 []) = some Z) := Lib.hid (by rw [HZ.out]; kernel_rfl)
  have hc2 : ¬ c < 0 := by omega
  go_enter Try.func10, Try.ntmps10
  go_wp2_with (first
    | (refine wpList_load_row rfl 25 _ rfl w.heap.size rfl 25 R (0, 0) _ S0.out.r Try.underlying25 rfl (by rw [size_lock, HS.out]) ?_)
    | (go_at_call 11; (with_reducible refine (queue_R l R HR _).mono ?_); rintro e w1 ⟨ra, rc, qs, b, rfl, hb1, hb2, hql, hat, hb⟩; have S1 := Lib.hid (S0.out.step hb); have G1 := S1.out.ops; have HB1 := Lib.hid hb1; have HB2 := Lib.hid hb2; have HAT := Lib.hid hat; clear hb hb1 hb2 hat)
    | fail)
  obtain ⟨m, hm⟩ : ∃ m, qs.length = m := ⟨_, rfl⟩
  rw [hm] at hql ⊢
  have HM := Lib.hid hm
  clear hm
  go_loop [9, 21] (fun x i => ∃ k : Nat, k ≤ m ∧ i = .int .i64 k ∧ x = .int .i64 (lastI qs c k)) (fun _ i => m - (intOf i).toNat)
  case atStart => exact ⟨0, by omega, rfl, rfl⟩
  case round =>
    obtain ⟨i, hi, rfl, rfl⟩ := hrel
    obtain ⟨a, ha⟩ : ∃ a, lastI qs c i = a := ⟨_, rfl⟩
    rw [ha]
    have HAA := Lib.hid ha
    clear ha
    by_cases hlt : i < m
    · obtain ⟨q, hq⟩ : ∃ q, qs[i]? = some q := ⟨qs[i]'(by rw [HM.out]; exact hlt), List.getElem?_eq_getElem _⟩
      obtain ⟨bb, off, rfl, _, cq⟩ := at_int HAT.out hq
      have HQ := Lib.hid hq
      clear hq
      by_cases e : q = c
      · have e1 : (q == c) = true := by simpa using e
        have HN : Hid (lastI qs c (i + 1) = i) := Lib.hid (by rw [lastI, if_pos (by rw [HQ.out, e])])
        clear e
        go_wp2_with fail
        go_round
        case rel => exact ⟨i + 1, by omega, by go_num, by rw [HN.out]⟩
        case measure => simp [intOf]; omega
      · have e1 : (q == c) = false := by simpa using e
        have HN : Hid (lastI qs c (i + 1) = a) := Lib.hid (by rw [lastI, if_neg (by rw [HQ.out]; intro h; exact e (Option.some.inj h)), HAA.out])
        clear e
        go_wp2_with fail
        go_round
        case rel => exact ⟨i + 1, by omega, by go_num, by rw [HN.out]⟩
        case measure => simp [intOf]; omega
    · obtain rfl : i = m := by omega
      have hb : b = true := HB1.out.2 HRT.out
      subst hb
      go_wp2_with (first
        | (refine wpList_build_row rfl 25 _ rfl Z HB.out ?_)
        | (refine wpList_store_row rfl 25 _ _ rfl (w.heap.size + 1 + 1) Z rfl rfl 25 Z S1.out.z (by rw [size_lock, HZS.out]) rfl HA.out ?_; intro w4 hw4)
        | fail)
      refine bodyPost_ret (results_row_tmp2 rfl _ _ (w.heap.size + 1 + 1) 25 Z (0, 0) _ rfl hw4.put Try.underlying25 rfl (by rw [size_lock, HZS.out])) rfl ⟨rfl, S1.out.b.trans (hw4.below _ (by omega))⟩
set_option maxHeartbeats 4000000 in
set_option maxRecDepth 100000 in
theorem fstep_hi2 (l : LockT) (c : Int) (R Z : Array Value) (hz : ∀ w, (zeroValue 25).run Try.prog w = .ok (.agg Z) w) (HZ : Hid (Z = lockRow lz)) (HR : Hid (lockRow l = R)) (w : World) (HRT : Hid (Rt l)) (hc : 7 < c) :
    Calls Try.prog 10 #[.agg R, .agg #[.int .i64 2, .int .i64 c]] w fun e w' => e = .returned (.tuple #[.agg Z, .bool false, .int .i64 2]) ∧ Below w.heap.size w w' := by
  have S0 := Lib.hid (sb_new w R Z 2 c)
  have HS : Hid (R.size = 18) := Lib.hid (by rw [← HR.out]; rfl)
  have HZS : Hid (Z.size = 18) := Lib.hid (by rw [HZ.out]; rfl)
  have HA : Hid (Z.all (·.oneCell') = true) := Lib.hid (by rw [HZ.out]; exact row_all _)
  have HB : Hid ((Try.prog.built 25 []) = some Z) := Lib.hid (by rw [HZ.out]; kernel_rfl)
  have hc2 : ¬ c < 0 := by omega
  go_enter Try.func10, Try.ntmps10
  go_wp2_with (first
    | (refine wpList_load_row rfl 25 _ rfl w.heap.size rfl 25 R (0, 0) _ S0.out.r Try.underlying25 rfl (by rw [size_lock, HS.out]) ?_)
    | (go_at_call 11; (with_reducible refine (queue_R l R HR _).mono ?_); rintro e w1 ⟨ra, rc, qs, b, rfl, hb1, hb2, hql, hat, hb⟩; have S1 := Lib.hid (S0.out.step hb); have G1 := S1.out.ops; have HB1 := Lib.hid hb1; have HB2 := Lib.hid hb2; have HAT := Lib.hid hat; clear hb hb1 hb2 hat)
    | fail)
  obtain ⟨m, hm⟩ : ∃ m, qs.length = m := ⟨_, rfl⟩
  rw [hm] at hql ⊢
  have HM := Lib.hid hm
  clear hm
  go_loop [9, 21] (fun x i => ∃ k : Nat, k ≤ m ∧ i = .int .i64 k ∧ x = .int .i64 (lastI qs c k)) (fun _ i => m - (intOf i).toNat)
  case atStart => exact ⟨0, by omega, rfl, rfl⟩
  case round =>
    obtain ⟨i, hi, rfl, rfl⟩ := hrel
    obtain ⟨a, ha⟩ : ∃ a, lastI qs c i = a := ⟨_, rfl⟩
    rw [ha]
    have HAA := Lib.hid ha
    clear ha
    by_cases hlt : i < m
    · obtain ⟨q, hq⟩ : ∃ q, qs[i]? = some q := ⟨qs[i]'(by rw [HM.out]; exact hlt), List.getElem?_eq_getElem _⟩
      obtain ⟨bb, off, rfl, _, cq⟩ := at_int HAT.out hq
      have HQ := Lib.hid hq
      clear hq
      by_cases e : q = c
      · have e1 : (q == c) = true := by simpa using e
        have HN : Hid (lastI qs c (i + 1) = i) := Lib.hid (by rw [lastI, if_pos (by rw [HQ.out, e])])
        clear e
        go_wp2_with fail
        go_round
        case rel => exact ⟨i + 1, by omega, by go_num, by rw [HN.out]⟩
        case measure => simp [intOf]; omega
      · have e1 : (q == c) = false := by simpa using e
        have HN : Hid (lastI qs c (i + 1) = a) := Lib.hid (by rw [lastI, if_neg (by rw [HQ.out]; intro h; exact e (Option.some.inj h)), HAA.out])
        clear e
        go_wp2_with fail
        go_round
        case rel => exact ⟨i + 1, by omega, by go_num, by rw [HN.out]⟩
        case measure => simp [intOf]; omega
    · obtain rfl : i = m := by omega
      have hb : b = true := HB1.out.2 HRT.out
      subst hb
      go_wp2_with (first
        | (refine wpList_build_row rfl 25 _ rfl Z HB.out ?_)
        | (refine wpList_store_row rfl 25 _ _ rfl (w.heap.size + 1 + 1) Z rfl rfl 25 Z S1.out.z (by rw [size_lock, HZS.out]) rfl HA.out ?_; intro w4 hw4)
        | fail)
      refine bodyPost_ret (results_row_tmp2 rfl _ _ (w.heap.size + 1 + 1) 25 Z (0, 0) _ rfl hw4.put Try.underlying25 rfl (by rw [size_lock, HZS.out])) rfl ⟨rfl, S1.out.b.trans (hw4.below _ (by omega))⟩
set_option maxHeartbeats 4000000 in
set_option maxRecDepth 100000 in
theorem fstep_hi3 (l : LockT) (c : Int) (R Z : Array Value) (hz : ∀ w, (zeroValue 25).run Try.prog w = .ok (.agg Z) w) (HZ : Hid (Z = lockRow lz)) (HR : Hid (lockRow l = R)) (w : World) (HRT : Hid (Rt l)) (hc : 7 < c) :
    Calls Try.prog 10 #[.agg R, .agg #[.int .i64 3, .int .i64 c]] w fun e w' => e = .returned (.tuple #[.agg Z, .bool false, .int .i64 2]) ∧ Below w.heap.size w w' := by
  have S0 := Lib.hid (sb_new w R Z 3 c)
  have HS : Hid (R.size = 18) := Lib.hid (by rw [← HR.out]; rfl)
  have HZS : Hid (Z.size = 18) := Lib.hid (by rw [HZ.out]; rfl)
  have HA : Hid (Z.all (·.oneCell') = true) := Lib.hid (by rw [HZ.out]; exact row_all _)
  have HB : Hid ((Try.prog.built 25 []) = some Z) := Lib.hid (by rw [HZ.out]; kernel_rfl)
  have hc2 : ¬ c < 0 := by omega
  go_enter Try.func10, Try.ntmps10
  go_wp2_with (first
    | (refine wpList_load_row rfl 25 _ rfl w.heap.size rfl 25 R (0, 0) _ S0.out.r Try.underlying25 rfl (by rw [size_lock, HS.out]) ?_)
    | (go_at_call 11; (with_reducible refine (queue_R l R HR _).mono ?_); rintro e w1 ⟨ra, rc, qs, b, rfl, hb1, hb2, hql, hat, hb⟩; have S1 := Lib.hid (S0.out.step hb); have G1 := S1.out.ops; have HB1 := Lib.hid hb1; have HB2 := Lib.hid hb2; have HAT := Lib.hid hat; clear hb hb1 hb2 hat)
    | fail)
  obtain ⟨m, hm⟩ : ∃ m, qs.length = m := ⟨_, rfl⟩
  rw [hm] at hql ⊢
  have HM := Lib.hid hm
  clear hm
  go_loop [9, 21] (fun x i => ∃ k : Nat, k ≤ m ∧ i = .int .i64 k ∧ x = .int .i64 (lastI qs c k)) (fun _ i => m - (intOf i).toNat)
  case atStart => exact ⟨0, by omega, rfl, rfl⟩
  case round =>
    obtain ⟨i, hi, rfl, rfl⟩ := hrel
    obtain ⟨a, ha⟩ : ∃ a, lastI qs c i = a := ⟨_, rfl⟩
    rw [ha]
    have HAA := Lib.hid ha
    clear ha
    by_cases hlt : i < m
    · obtain ⟨q, hq⟩ : ∃ q, qs[i]? = some q := ⟨qs[i]'(by rw [HM.out]; exact hlt), List.getElem?_eq_getElem _⟩
      obtain ⟨bb, off, rfl, _, cq⟩ := at_int HAT.out hq
      have HQ := Lib.hid hq
      clear hq
      by_cases e : q = c
      · have e1 : (q == c) = true := by simpa using e
        have HN : Hid (lastI qs c (i + 1) = i) := Lib.hid (by rw [lastI, if_pos (by rw [HQ.out, e])])
        clear e
        go_wp2_with fail
        go_round
        case rel => exact ⟨i + 1, by omega, by go_num, by rw [HN.out]⟩
        case measure => simp [intOf]; omega
      · have e1 : (q == c) = false := by simpa using e
        have HN : Hid (lastI qs c (i + 1) = a) := Lib.hid (by rw [lastI, if_neg (by rw [HQ.out]; intro h; exact e (Option.some.inj h)), HAA.out])
        clear e
        go_wp2_with fail
        go_round
        case rel => exact ⟨i + 1, by omega, by go_num, by rw [HN.out]⟩
        case measure => simp [intOf]; omega
    · obtain rfl : i = m := by omega
      have hb : b = true := HB1.out.2 HRT.out
      subst hb
      go_wp2_with (first
        | (refine wpList_build_row rfl 25 _ rfl Z HB.out ?_)
        | (refine wpList_store_row rfl 25 _ _ rfl (w.heap.size + 1 + 1) Z rfl rfl 25 Z S1.out.z (by rw [size_lock, HZS.out]) rfl HA.out ?_; intro w4 hw4)
        | fail)
      refine bodyPost_ret (results_row_tmp2 rfl _ _ (w.heap.size + 1 + 1) 25 Z (0, 0) _ rfl hw4.put Try.underlying25 rfl (by rw [size_lock, HZS.out])) rfl ⟨rfl, S1.out.b.trans (hw4.below _ (by omega))⟩
set_option maxHeartbeats 4000000 in
set_option maxRecDepth 100000 in
theorem fstep_held (l : LockT) (n : Nat) (R Z : Array Value) (hz : ∀ w, (zeroValue 25).run Try.prog w = .ok (.agg Z) w) (HZ : Hid (Z = lockRow lz)) (HR : Hid (lockRow l = R)) (w : World) (HRT : Hid (Rt l)) (hn : n < 8) (hm : ¬ l.mine n = -1) :
    Calls Try.prog 10 #[.agg R, .agg #[.int .i64 1, .int .i64 n]] w fun e w' => e = .returned (.tuple #[.agg Z, .bool false, .int .i64 6]) ∧ Below w.heap.size w w' := by
  have S0 := Lib.hid (sb_new w R Z 1 n)
  have HS : Hid (R.size = 18) := Lib.hid (by rw [← HR.out]; rfl)
  have HZS : Hid (Z.size = 18) := Lib.hid (by rw [HZ.out]; rfl)
  have HA : Hid (Z.all (·.oneCell') = true) := Lib.hid (by rw [HZ.out]; exact row_all _)
  have HB : Hid ((Try.prog.built 25 []) = some Z) := Lib.hid (by rw [HZ.out]; kernel_rfl)
  have hn' : (n : Int) < 8 := by omega
  have hn7 : ¬ 7 < (n : Int) := by omega
  go_enter Try.func10, Try.ntmps10
  go_wp2_with (first
    | (refine wpList_load_row rfl 25 _ rfl w.heap.size rfl 25 R (0, 0) _ S0.out.r Try.underlying25 rfl (by rw [size_lock, HS.out]) ?_)
    | (go_at_call 11; (with_reducible refine (queue_R l R HR _).mono ?_); rintro e w1 ⟨ra, rc, qs, b, rfl, hb1, hb2, hql, hat, hb⟩; have S1 := Lib.hid (S0.out.step hb); have G1 := S1.out.ops; have HB1 := Lib.hid hb1; have HB2 := Lib.hid hb2; have HAT := Lib.hid hat; clear hb hb1 hb2 hat)
    | fail)
  obtain ⟨m, hm⟩ : ∃ m, qs.length = m := ⟨_, rfl⟩
  rw [hm] at hql ⊢
  have HM := Lib.hid hm
  clear hm
  go_loop [9, 21] (fun x i => ∃ k : Nat, k ≤ m ∧ i = .int .i64 k ∧ x = .int .i64 (lastI qs n k)) (fun _ i => m - (intOf i).toNat)
  case atStart => exact ⟨0, by omega, rfl, rfl⟩
  case round =>
    obtain ⟨i, hi, rfl, rfl⟩ := hrel
    obtain ⟨a, ha⟩ : ∃ a, lastI qs n i = a := ⟨_, rfl⟩
    rw [ha]
    have HAA := Lib.hid ha
    clear ha
    by_cases hlt : i < m
    · obtain ⟨q, hq⟩ : ∃ q, qs[i]? = some q := ⟨qs[i]'(by rw [HM.out]; exact hlt), List.getElem?_eq_getElem _⟩
      obtain ⟨bb, off, rfl, _, cq⟩ := at_int HAT.out hq
      have HQ := Lib.hid hq
      clear hq
      by_cases e : q = n
      · have e1 : (q == n) = true := by simpa using e
        have HN : Hid (lastI qs n (i + 1) = i) := Lib.hid (by rw [lastI, if_pos (by rw [HQ.out, e])])
        clear e
        go_wp2_with fail
        go_round
        case rel => exact ⟨i + 1, by omega, by go_num, by rw [HN.out]⟩
        case measure => simp [intOf]; omega
      · have e1 : (q == n) = false := by simpa using e
        have HN : Hid (lastI qs n (i + 1) = a) := Lib.hid (by rw [lastI, if_neg (by rw [HQ.out]; intro h; exact e (Option.some.inj h)), HAA.out])
        clear e
        go_wp2_with fail
        go_round
        case rel => exact ⟨i + 1, by omega, by go_num, by rw [HN.out]⟩
        case measure => simp [intOf]; omega
    · obtain rfl : i = m := by omega
      have hb : b = true := HB1.out.2 HRT.out
      subst hb
      have hla : a = if l.mine n = -1 then -1 else l.mine n - l.now := by
        obtain ⟨j, hj, hqs⟩ := HB2.out rfl
        rw [← HAA.out, ← HM.out, hqs]
        exact last_rt HRT.out hj hn
      rw [if_neg hm] at hla
      have h0 : 0 ≤ a := by have := HRT.out.rng n hn; omega
      clear hla
      go_wp2_with (first
        | (refine wpList_build_row rfl 25 _ rfl Z HB.out ?_)
        | (refine wpList_store_row rfl 25 _ _ rfl (w.heap.size + 1 + 1) Z rfl rfl 25 Z S1.out.z (by rw [size_lock, HZS.out]) rfl HA.out ?_; intro w4 hw4)
        | fail)
      refine bodyPost_ret (results_row_tmp2 rfl _ _ (w.heap.size + 1 + 1) 25 Z (0, 0) _ rfl hw4.put Try.underlying25 rfl (by rw [size_lock, HZS.out])) rfl ⟨rfl, S1.out.b.trans (hw4.below _ (by omega))⟩
set_option maxHeartbeats 4000000 in
set_option maxRecDepth 100000 in
theorem fstep_full (l : LockT) (n : Nat) (R Z : Array Value) (hz : ∀ w, (zeroValue 25).run Try.prog w = .ok (.agg Z) w) (HZ : Hid (Z = lockRow lz)) (HR : Hid (lockRow l = R)) (w : World) (HRT : Hid (Rt l)) (hn : n < 8) (hm : l.mine n = -1) (hx : l.next = 1099511627776) :
    Calls Try.prog 10 #[.agg R, .agg #[.int .i64 1, .int .i64 n]] w fun e w' => e = .returned (.tuple #[.agg Z, .bool false, .int .i64 4]) ∧ Below w.heap.size w w' := by
  have S0 := Lib.hid (sb_new w R Z 1 n)
  have HS : Hid (R.size = 18) := Lib.hid (by rw [← HR.out]; rfl)
  have HZS : Hid (Z.size = 18) := Lib.hid (by rw [HZ.out]; rfl)
  have HA : Hid (Z.all (·.oneCell') = true) := Lib.hid (by rw [HZ.out]; exact row_all _)
  have HB : Hid ((Try.prog.built 25 []) = some Z) := Lib.hid (by rw [HZ.out]; kernel_rfl)
  have hn' : (n : Int) < 8 := by omega
  have hn7 : ¬ 7 < (n : Int) := by omega
  go_enter Try.func10, Try.ntmps10
  go_wp2_with (first
    | (refine wpList_load_row rfl 25 _ rfl w.heap.size rfl 25 R (0, 0) _ S0.out.r Try.underlying25 rfl (by rw [size_lock, HS.out]) ?_)
    | (go_at_call 11; (with_reducible refine (queue_R l R HR _).mono ?_); rintro e w1 ⟨ra, rc, qs, b, rfl, hb1, hb2, hql, hat, hb⟩; have S1 := Lib.hid (S0.out.step hb); have G1 := S1.out.ops; have HB1 := Lib.hid hb1; have HB2 := Lib.hid hb2; have HAT := Lib.hid hat; clear hb hb1 hb2 hat)
    | fail)
  obtain ⟨m, hm⟩ : ∃ m, qs.length = m := ⟨_, rfl⟩
  rw [hm] at hql ⊢
  have HM := Lib.hid hm
  clear hm
  go_loop [9, 21] (fun x i => ∃ k : Nat, k ≤ m ∧ i = .int .i64 k ∧ x = .int .i64 (lastI qs n k)) (fun _ i => m - (intOf i).toNat)
  case atStart => exact ⟨0, by omega, rfl, rfl⟩
  case round =>
    obtain ⟨i, hi, rfl, rfl⟩ := hrel
    obtain ⟨a, ha⟩ : ∃ a, lastI qs n i = a := ⟨_, rfl⟩
    rw [ha]
    have HAA := Lib.hid ha
    clear ha
    by_cases hlt : i < m
    · obtain ⟨q, hq⟩ : ∃ q, qs[i]? = some q := ⟨qs[i]'(by rw [HM.out]; exact hlt), List.getElem?_eq_getElem _⟩
      obtain ⟨bb, off, rfl, _, cq⟩ := at_int HAT.out hq
      have HQ := Lib.hid hq
      clear hq
      by_cases e : q = n
      · have e1 : (q == n) = true := by simpa using e
        have HN : Hid (lastI qs n (i + 1) = i) := Lib.hid (by rw [lastI, if_pos (by rw [HQ.out, e])])
        clear e
        go_wp2_with fail
        go_round
        case rel => exact ⟨i + 1, by omega, by go_num, by rw [HN.out]⟩
        case measure => simp [intOf]; omega
      · have e1 : (q == n) = false := by simpa using e
        have HN : Hid (lastI qs n (i + 1) = a) := Lib.hid (by rw [lastI, if_neg (by rw [HQ.out]; intro h; exact e (Option.some.inj h)), HAA.out])
        clear e
        go_wp2_with fail
        go_round
        case rel => exact ⟨i + 1, by omega, by go_num, by rw [HN.out]⟩
        case measure => simp [intOf]; omega
    · obtain rfl : i = m := by omega
      have hb : b = true := HB1.out.2 HRT.out
      subst hb
      have hla : a = if l.mine n = -1 then -1 else l.mine n - l.now := by
        obtain ⟨j, hj, hqs⟩ := HB2.out rfl
        rw [← HAA.out, ← HM.out, hqs]
        exact last_rt HRT.out hj hn
      rw [if_pos hm] at hla
      subst hla
      have cn := box_cells S1.out.r 0 (.int .i64 1099511627776) (by rw [← HR.out, ← hx]; rfl)
      go_wp2_with (first
        | (refine wpList_build_row rfl 25 _ rfl Z HB.out ?_)
        | (refine wpList_store_row rfl 25 _ _ rfl (w.heap.size + 1 + 1) Z rfl rfl 25 Z S1.out.z (by rw [size_lock, HZS.out]) rfl HA.out ?_; intro w4 hw4)
        | fail)
      refine bodyPost_ret (results_row_tmp2 rfl _ _ (w.heap.size + 1 + 1) 25 Z (0, 0) _ rfl hw4.put Try.underlying25 rfl (by rw [size_lock, HZS.out])) rfl ⟨rfl, S1.out.b.trans (hw4.below _ (by omega))⟩
set_option maxHeartbeats 4000000 in
set_option maxRecDepth 100000 in
theorem fstep_none2 (l : LockT) (n : Nat) (R Z : Array Value) (hz : ∀ w, (zeroValue 25).run Try.prog w = .ok (.agg Z) w) (HZ : Hid (Z = lockRow lz)) (HR : Hid (lockRow l = R)) (w : World) (HRT : Hid (Rt l)) (hn : n < 8) (hm : l.mine n = -1) :
    Calls Try.prog 10 #[.agg R, .agg #[.int .i64 2, .int .i64 n]] w fun e w' => e = .returned (.tuple #[.agg Z, .bool false, .int .i64 3]) ∧ Below w.heap.size w w' := by
  have S0 := Lib.hid (sb_new w R Z 2 n)
  have HS : Hid (R.size = 18) := Lib.hid (by rw [← HR.out]; rfl)
  have HZS : Hid (Z.size = 18) := Lib.hid (by rw [HZ.out]; rfl)
  have HA : Hid (Z.all (·.oneCell') = true) := Lib.hid (by rw [HZ.out]; exact row_all _)
  have HB : Hid ((Try.prog.built 25 []) = some Z) := Lib.hid (by rw [HZ.out]; kernel_rfl)
  have hn' : (n : Int) < 8 := by omega
  have hn7 : ¬ 7 < (n : Int) := by omega
  go_enter Try.func10, Try.ntmps10
  go_wp2_with (first
    | (refine wpList_load_row rfl 25 _ rfl w.heap.size rfl 25 R (0, 0) _ S0.out.r Try.underlying25 rfl (by rw [size_lock, HS.out]) ?_)
    | (go_at_call 11; (with_reducible refine (queue_R l R HR _).mono ?_); rintro e w1 ⟨ra, rc, qs, b, rfl, hb1, hb2, hql, hat, hb⟩; have S1 := Lib.hid (S0.out.step hb); have G1 := S1.out.ops; have HB1 := Lib.hid hb1; have HB2 := Lib.hid hb2; have HAT := Lib.hid hat; clear hb hb1 hb2 hat)
    | fail)
  obtain ⟨m, hm⟩ : ∃ m, qs.length = m := ⟨_, rfl⟩
  rw [hm] at hql ⊢
  have HM := Lib.hid hm
  clear hm
  go_loop [9, 21] (fun x i => ∃ k : Nat, k ≤ m ∧ i = .int .i64 k ∧ x = .int .i64 (lastI qs n k)) (fun _ i => m - (intOf i).toNat)
  case atStart => exact ⟨0, by omega, rfl, rfl⟩
  case round =>
    obtain ⟨i, hi, rfl, rfl⟩ := hrel
    obtain ⟨a, ha⟩ : ∃ a, lastI qs n i = a := ⟨_, rfl⟩
    rw [ha]
    have HAA := Lib.hid ha
    clear ha
    by_cases hlt : i < m
    · obtain ⟨q, hq⟩ : ∃ q, qs[i]? = some q := ⟨qs[i]'(by rw [HM.out]; exact hlt), List.getElem?_eq_getElem _⟩
      obtain ⟨bb, off, rfl, _, cq⟩ := at_int HAT.out hq
      have HQ := Lib.hid hq
      clear hq
      by_cases e : q = n
      · have e1 : (q == n) = true := by simpa using e
        have HN : Hid (lastI qs n (i + 1) = i) := Lib.hid (by rw [lastI, if_pos (by rw [HQ.out, e])])
        clear e
        go_wp2_with fail
        go_round
        case rel => exact ⟨i + 1, by omega, by go_num, by rw [HN.out]⟩
        case measure => simp [intOf]; omega
      · have e1 : (q == n) = false := by simpa using e
        have HN : Hid (lastI qs n (i + 1) = a) := Lib.hid (by rw [lastI, if_neg (by rw [HQ.out]; intro h; exact e (Option.some.inj h)), HAA.out])
        clear e
        go_wp2_with fail
        go_round
        case rel => exact ⟨i + 1, by omega, by go_num, by rw [HN.out]⟩
        case measure => simp [intOf]; omega
    · obtain rfl : i = m := by omega
      have hb : b = true := HB1.out.2 HRT.out
      subst hb
      have hla : a = if l.mine n = -1 then -1 else l.mine n - l.now := by
        obtain ⟨j, hj, hqs⟩ := HB2.out rfl
        rw [← HAA.out, ← HM.out, hqs]
        exact last_rt HRT.out hj hn
      rw [if_pos hm] at hla
      subst hla
      go_wp2_with (first
        | (refine wpList_build_row rfl 25 _ rfl Z HB.out ?_)
        | (refine wpList_store_row rfl 25 _ _ rfl (w.heap.size + 1 + 1) Z rfl rfl 25 Z S1.out.z (by rw [size_lock, HZS.out]) rfl HA.out ?_; intro w4 hw4)
        | fail)
      refine bodyPost_ret (results_row_tmp2 rfl _ _ (w.heap.size + 1 + 1) 25 Z (0, 0) _ rfl hw4.put Try.underlying25 rfl (by rw [size_lock, HZS.out])) rfl ⟨rfl, S1.out.b.trans (hw4.below _ (by omega))⟩
set_option maxHeartbeats 4000000 in
set_option maxRecDepth 100000 in
theorem fstep_none3 (l : LockT) (n : Nat) (R Z : Array Value) (hz : ∀ w, (zeroValue 25).run Try.prog w = .ok (.agg Z) w) (HZ : Hid (Z = lockRow lz)) (HR : Hid (lockRow l = R)) (w : World) (HRT : Hid (Rt l)) (hn : n < 8) (hin : l.inn n = false) :
    Calls Try.prog 10 #[.agg R, .agg #[.int .i64 3, .int .i64 n]] w fun e w' => e = .returned (.tuple #[.agg Z, .bool false, .int .i64 3]) ∧ Below w.heap.size w w' := by
  have S0 := Lib.hid (sb_new w R Z 3 n)
  have HS : Hid (R.size = 18) := Lib.hid (by rw [← HR.out]; rfl)
  have HZS : Hid (Z.size = 18) := Lib.hid (by rw [HZ.out]; rfl)
  have HA : Hid (Z.all (·.oneCell') = true) := Lib.hid (by rw [HZ.out]; exact row_all _)
  have HB : Hid ((Try.prog.built 25 []) = some Z) := Lib.hid (by rw [HZ.out]; kernel_rfl)
  have hn' : (n : Int) < 8 := by omega
  have hn7 : ¬ 7 < (n : Int) := by omega
  go_enter Try.func10, Try.ntmps10
  go_wp2_with (first
    | (refine wpList_load_row rfl 25 _ rfl w.heap.size rfl 25 R (0, 0) _ S0.out.r Try.underlying25 rfl (by rw [size_lock, HS.out]) ?_)
    | (go_at_call 11; (with_reducible refine (queue_R l R HR _).mono ?_); rintro e w1 ⟨ra, rc, qs, b, rfl, hb1, hb2, hql, hat, hb⟩; have S1 := Lib.hid (S0.out.step hb); have G1 := S1.out.ops; have HB1 := Lib.hid hb1; have HB2 := Lib.hid hb2; have HAT := Lib.hid hat; clear hb hb1 hb2 hat)
    | fail)
  obtain ⟨m, hm⟩ : ∃ m, qs.length = m := ⟨_, rfl⟩
  rw [hm] at hql ⊢
  have HM := Lib.hid hm
  clear hm
  go_loop [9, 21] (fun x i => ∃ k : Nat, k ≤ m ∧ i = .int .i64 k ∧ x = .int .i64 (lastI qs n k)) (fun _ i => m - (intOf i).toNat)
  case atStart => exact ⟨0, by omega, rfl, rfl⟩
  case round =>
    obtain ⟨i, hi, rfl, rfl⟩ := hrel
    obtain ⟨a, ha⟩ : ∃ a, lastI qs n i = a := ⟨_, rfl⟩
    rw [ha]
    have HAA := Lib.hid ha
    clear ha
    by_cases hlt : i < m
    · obtain ⟨q, hq⟩ : ∃ q, qs[i]? = some q := ⟨qs[i]'(by rw [HM.out]; exact hlt), List.getElem?_eq_getElem _⟩
      obtain ⟨bb, off, rfl, _, cq⟩ := at_int HAT.out hq
      have HQ := Lib.hid hq
      clear hq
      by_cases e : q = n
      · have e1 : (q == n) = true := by simpa using e
        have HN : Hid (lastI qs n (i + 1) = i) := Lib.hid (by rw [lastI, if_pos (by rw [HQ.out, e])])
        clear e
        go_wp2_with fail
        go_round
        case rel => exact ⟨i + 1, by omega, by go_num, by rw [HN.out]⟩
        case measure => simp [intOf]; omega
      · have e1 : (q == n) = false := by simpa using e
        have HN : Hid (lastI qs n (i + 1) = a) := Lib.hid (by rw [lastI, if_neg (by rw [HQ.out]; intro h; exact e (Option.some.inj h)), HAA.out])
        clear e
        go_wp2_with fail
        go_round
        case rel => exact ⟨i + 1, by omega, by go_num, by rw [HN.out]⟩
        case measure => simp [intOf]; omega
    · obtain rfl : i = m := by omega
      have hb : b = true := HB1.out.2 HRT.out
      subst hb
      have ci := box_cells S1.out.r (10 + n) (.bool false) (by rw [← HR.out, lockRow_inn _ hn, hin])
      clear HAA
      go_wp2_with (first
        | (refine wpList_build_row rfl 25 _ rfl Z HB.out ?_)
        | (refine wpList_store_row rfl 25 _ _ rfl (w.heap.size + 1 + 1) Z rfl rfl 25 Z S1.out.z (by rw [size_lock, HZS.out]) rfl HA.out ?_; intro w4 hw4)
        | fail)
      refine bodyPost_ret (results_row_tmp2 rfl _ _ (w.heap.size + 1 + 1) 25 Z (0, 0) _ rfl hw4.put Try.underlying25 rfl (by rw [size_lock, HZS.out])) rfl ⟨rfl, S1.out.b.trans (hw4.below _ (by omega))⟩
set_option maxHeartbeats 4000000 in
set_option maxRecDepth 100000 in
theorem fstep_ask (l : LockT) (n : Nat) (R Z : Array Value) (R9 : Array Value) (HR9 : Hid (R9 = lockRow (newT l 1 n))) (hz : ∀ w, (zeroValue 25).run Try.prog w = .ok (.agg Z) w) (HZ : Hid (Z = lockRow lz)) (HR : Hid (lockRow l = R)) (w : World) (HRT : Hid (Rt l)) (hn : n < 8) (hm : l.mine n = -1) (nx : Int) (HX : Hid (l.next = nx)) (b0 : 0 ≤ nx) (b1 : nx < 1099511627776) :
    Calls Try.prog 10 #[.agg R, .agg #[.int .i64 1, .int .i64 n]] w fun e w' => e = .returned (.tuple #[.agg R9, .bool false, .int .i64 0]) ∧ Below w.heap.size w w' := by
  have S0 := Lib.hid (sb_new w R Z 1 n)
  have HS : Hid (R.size = 18) := Lib.hid (by rw [← HR.out]; rfl)
  have HZS : Hid (Z.size = 18) := Lib.hid (by rw [HZ.out]; rfl)
  have HA : Hid (Z.all (·.oneCell') = true) := Lib.hid (by rw [HZ.out]; exact row_all _)
  have HB : Hid ((Try.prog.built 25 []) = some Z) := Lib.hid (by rw [HZ.out]; kernel_rfl)
  have hn' : (n : Int) < 8 := by omega
  have hn7 : ¬ 7 < (n : Int) := by omega
  have HS9 : Hid (R9.size = 18) := Lib.hid (by rw [HR9.out]; rfl)
  have HA9 : Hid (R9.all (·.oneCell') = true) := Lib.hid (by rw [HR9.out]; exact row_all _)
  obtain ⟨R1, h1⟩ : ∃ R1, R.setIfInBounds (2 + n) (.int .i64 nx) = R1 := ⟨_, rfl⟩
  have h2 : R1.setIfInBounds 0 (.int .i64 (nx + 1)) = R9 := by rw [HR9.out, ← h1, ← HR.out, set_mine l hn, set_next, new_ask, HX.out]
  have r0 : R1[0]? = some (.int .i64 nx) := by rw [← h1, ← HR.out, set_mine l hn, ← HX.out]; rfl
  have H1 := Lib.hid h1
  have H2 := Lib.hid h2
  have HR0 := Lib.hid r0
  have b2 : (nx == 1099511627776) = false := by simp; omega
  clear h1 h2 r0
  go_enter Try.func10, Try.ntmps10
  go_wp2_with (first
    | (refine wpList_load_row rfl 25 _ rfl w.heap.size rfl 25 R (0, 0) _ S0.out.r Try.underlying25 rfl (by rw [size_lock, HS.out]) ?_)
    | (go_at_call 11; (with_reducible refine (queue_R l R HR _).mono ?_); rintro e w1 ⟨ra, rc, qs, b, rfl, hb1, hb2, hql, hat, hb⟩; have S1 := Lib.hid (S0.out.step hb); have G1 := S1.out.ops; have HB1 := Lib.hid hb1; have HB2 := Lib.hid hb2; have HAT := Lib.hid hat; clear hb hb1 hb2 hat)
    | fail)
  obtain ⟨m, hm⟩ : ∃ m, qs.length = m := ⟨_, rfl⟩
  rw [hm] at hql ⊢
  have HM := Lib.hid hm
  clear hm
  go_loop [9, 21] (fun x i => ∃ k : Nat, k ≤ m ∧ i = .int .i64 k ∧ x = .int .i64 (lastI qs n k)) (fun _ i => m - (intOf i).toNat)
  case atStart => exact ⟨0, by omega, rfl, rfl⟩
  case round =>
    obtain ⟨i, hi, rfl, rfl⟩ := hrel
    obtain ⟨a, ha⟩ : ∃ a, lastI qs n i = a := ⟨_, rfl⟩
    rw [ha]
    have HAA := Lib.hid ha
    clear ha
    by_cases hlt : i < m
    · obtain ⟨q, hq⟩ : ∃ q, qs[i]? = some q := ⟨qs[i]'(by rw [HM.out]; exact hlt), List.getElem?_eq_getElem _⟩
      obtain ⟨bb, off, rfl, _, cq⟩ := at_int HAT.out hq
      have HQ := Lib.hid hq
      clear hq
      by_cases e : q = n
      · have e1 : (q == n) = true := by simpa using e
        have HN : Hid (lastI qs n (i + 1) = i) := Lib.hid (by rw [lastI, if_pos (by rw [HQ.out, e])])
        clear e
        go_wp2_with fail
        go_round
        case rel => exact ⟨i + 1, by omega, by go_num, by rw [HN.out]⟩
        case measure => simp [intOf]; omega
      · have e1 : (q == n) = false := by simpa using e
        have HN : Hid (lastI qs n (i + 1) = a) := Lib.hid (by rw [lastI, if_neg (by rw [HQ.out]; intro h; exact e (Option.some.inj h)), HAA.out])
        clear e
        go_wp2_with fail
        go_round
        case rel => exact ⟨i + 1, by omega, by go_num, by rw [HN.out]⟩
        case measure => simp [intOf]; omega
    · obtain rfl : i = m := by omega
      have hb : b = true := HB1.out.2 HRT.out
      subst hb
      have hla : a = if l.mine n = -1 then -1 else l.mine n - l.now := by
        obtain ⟨j, hj, hqs⟩ := HB2.out rfl
        rw [← HAA.out, ← HM.out, hqs]
        exact last_rt HRT.out hj hn
      rw [if_pos hm] at hla
      subst hla
      have cn := box_cells S1.out.r 0 (.int .i64 nx) (by rw [← HR.out, ← HX.out]; rfl)
      have cm := box_cells S1.out.r (2 + n) (.int .i64 (l.mine n)) (by rw [← HR.out, lockRow_mine _ hn])
      have f0 := S1.out.frozen
      go_wp2_with (first
        | (refine wpList_load_row rfl 25 _ rfl w.heap.size rfl 25 R9 (0, 0) _ (by rw [← H2.out]; exact heap_setCell_same _ _ _ _ _ _ (by rw [← H1.out]; exact heap_setCell_same _ _ _ _ _ _ S1.out.r)) Try.underlying25 rfl (by rw [size_lock, HS9.out]) ?_)
        | (refine wpList_store_row rfl 25 _ _ rfl (w.heap.size + 1 + 1) R9 rfl rfl 25 Z (set_other (by omega) _ _ (set_other (by omega) _ _ S1.out.z)) (by rw [size_lock, HS9.out]) (by rw [HZS.out, HS9.out]) HA9.out ?_; intro w4 hw4)
        | fail)
      refine bodyPost_ret (results_row_tmp2 rfl _ _ (w.heap.size + 1 + 1) 25 R9 (0, 0) _ rfl hw4.put Try.underlying25 rfl (by rw [size_lock, HS9.out])) rfl ⟨rfl, (set_below (set_below S1.out.b _ _) _ _).trans (hw4.below _ (by omega))⟩
set_option maxHeartbeats 4000000 in
set_option maxRecDepth 100000 in
theorem fstep_look (l : LockT) (n : Nat) (R Z : Array Value) (R9 : Array Value) (HR9 : Hid (R9 = lockRow (newT l 2 n))) (hz : ∀ w, (zeroValue 25).run Try.prog w = .ok (.agg Z) w) (HZ : Hid (Z = lockRow lz)) (HR : Hid (lockRow l = R)) (w : World) (HRT : Hid (Rt l)) (hn : n < 8) (hm : ¬ l.mine n = -1) (t : Bool) (ht : Hid (decide (l.mine n = l.now) = t)) :
    Calls Try.prog 10 #[.agg R, .agg #[.int .i64 2, .int .i64 n]] w fun e w' => e = .returned (.tuple #[.agg R9, .bool t, .int .i64 0]) ∧ Below w.heap.size w w' := by
  have S0 := Lib.hid (sb_new w R Z 2 n)
  have HS : Hid (R.size = 18) := Lib.hid (by rw [← HR.out]; rfl)
  have HZS : Hid (Z.size = 18) := Lib.hid (by rw [HZ.out]; rfl)
  have HA : Hid (Z.all (·.oneCell') = true) := Lib.hid (by rw [HZ.out]; exact row_all _)
  have HB : Hid ((Try.prog.built 25 []) = some Z) := Lib.hid (by rw [HZ.out]; kernel_rfl)
  have hn' : (n : Int) < 8 := by omega
  have hn7 : ¬ 7 < (n : Int) := by omega
  have HS9 : Hid (R9.size = 18) := Lib.hid (by rw [HR9.out]; rfl)
  have HA9 : Hid (R9.all (·.oneCell') = true) := Lib.hid (by rw [HR9.out]; exact row_all _)
  have h2 : R.setIfInBounds (10 + n) (.bool t) = R9 := by rw [HR9.out, ← HR.out, set_inn l hn, new_look, ht.out]
  have H2 := Lib.hid h2
  clear h2
  go_enter Try.func10, Try.ntmps10
  go_wp2_with (first
    | (refine wpList_load_row rfl 25 _ rfl w.heap.size rfl 25 R (0, 0) _ S0.out.r Try.underlying25 rfl (by rw [size_lock, HS.out]) ?_)
    | (go_at_call 11; (with_reducible refine (queue_R l R HR _).mono ?_); rintro e w1 ⟨ra, rc, qs, b, rfl, hb1, hb2, hql, hat, hb⟩; have S1 := Lib.hid (S0.out.step hb); have G1 := S1.out.ops; have HB1 := Lib.hid hb1; have HB2 := Lib.hid hb2; have HAT := Lib.hid hat; clear hb hb1 hb2 hat)
    | fail)
  obtain ⟨m, hm⟩ : ∃ m, qs.length = m := ⟨_, rfl⟩
  rw [hm] at hql ⊢
  have HM := Lib.hid hm
  clear hm
  go_loop [9, 21] (fun x i => ∃ k : Nat, k ≤ m ∧ i = .int .i64 k ∧ x = .int .i64 (lastI qs n k)) (fun _ i => m - (intOf i).toNat)
  case atStart => exact ⟨0, by omega, rfl, rfl⟩
  case round =>
    obtain ⟨i, hi, rfl, rfl⟩ := hrel
    obtain ⟨a, ha⟩ : ∃ a, lastI qs n i = a := ⟨_, rfl⟩
    rw [ha]
    have HAA := Lib.hid ha
    clear ha
    by_cases hlt : i < m
    · obtain ⟨q, hq⟩ : ∃ q, qs[i]? = some q := ⟨qs[i]'(by rw [HM.out]; exact hlt), List.getElem?_eq_getElem _⟩
      obtain ⟨bb, off, rfl, _, cq⟩ := at_int HAT.out hq
      have HQ := Lib.hid hq
      clear hq
      by_cases e : q = n
      · have e1 : (q == n) = true := by simpa using e
        have HN : Hid (lastI qs n (i + 1) = i) := Lib.hid (by rw [lastI, if_pos (by rw [HQ.out, e])])
        clear e
        go_wp2_with fail
        go_round
        case rel => exact ⟨i + 1, by omega, by go_num, by rw [HN.out]⟩
        case measure => simp [intOf]; omega
      · have e1 : (q == n) = false := by simpa using e
        have HN : Hid (lastI qs n (i + 1) = a) := Lib.hid (by rw [lastI, if_neg (by rw [HQ.out]; intro h; exact e (Option.some.inj h)), HAA.out])
        clear e
        go_wp2_with fail
        go_round
        case rel => exact ⟨i + 1, by omega, by go_num, by rw [HN.out]⟩
        case measure => simp [intOf]; omega
    · obtain rfl : i = m := by omega
      have hb : b = true := HB1.out.2 HRT.out
      subst hb
      have hla : a = if l.mine n = -1 then -1 else l.mine n - l.now := by
        obtain ⟨j, hj, hqs⟩ := HB2.out rfl
        rw [← HAA.out, ← HM.out, hqs]
        exact last_rt HRT.out hj hn
      rw [if_neg hm] at hla
      have h0 : ¬ a < 0 := by have := HRT.out.rng n hn; omega
      have h1 : (a == 0) = t := by rw [← ht.out]; rw [Bool.eq_iff_iff]; simp; omega
      have ci := box_cells S1.out.r (10 + n) (.bool (l.inn n)) (by rw [← HR.out, lockRow_inn _ hn])
      have f0 := S1.out.frozen
      clear hla
      go_wp2_with (first
        | (refine wpList_load_row rfl 25 _ rfl w.heap.size rfl 25 R9 (0, 0) _ (by rw [← H2.out]; exact heap_setCell_same _ _ _ _ _ _ S1.out.r) Try.underlying25 rfl (by rw [size_lock, HS9.out]) ?_)
        | (refine wpList_store_row rfl 25 _ _ rfl (w.heap.size + 1 + 1) R9 rfl rfl 25 Z (set_other (by omega) _ _ S1.out.z) (by rw [size_lock, HS9.out]) (by rw [HZS.out, HS9.out]) HA9.out ?_; intro w4 hw4)
        | fail)
      refine bodyPost_ret (results_row_tmp2 rfl _ _ (w.heap.size + 1 + 1) 25 R9 (0, 0) _ rfl hw4.put Try.underlying25 rfl (by rw [size_lock, HS9.out])) rfl ⟨rfl, (set_below S1.out.b _ _).trans (hw4.below _ (by omega))⟩
end Go.Proofs.Ytfepgebnaglkaaa
