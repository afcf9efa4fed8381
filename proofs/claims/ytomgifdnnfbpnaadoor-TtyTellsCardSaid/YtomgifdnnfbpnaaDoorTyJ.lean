/- corebellref.QRight; strings.HasSuffix by one blank, LastIndexByte. -/
import Derived.Test.YtomgifdnnfbpnaaDoorTyI
import Derived.Test.YtomgifdnnfbpnaaDoorStrT
namespace Go.Proofs.YtomgifdnnfbpnaaDoor
open Go.RowKit

/-- None of these lines is too long. -/
def allL (ls : List (List UInt8)) : Bool := ls.all fun q => decide (q.length ≤ 65)
theorem allL_next {ls : List (List UInt8)} {k : Nat} {l : List UInt8} (h : ls[k]? = some l) : allL (ls.take (k + 1)) = (allL (ls.take k) && decide (l.length ≤ 65)) := by
  have e : ls.take (k + 1) = ls.take k ++ [l] := by rw [List.take_add_one, h]; rfl
  rw [e]
  simp [allL]
theorem rgtQ_all (ls : List (List UInt8)) (n m : Nat) : (decide (m ≤ 64 ∧ n ≤ 400) && allL ls) = rgtQ ls n m := by
  unfold rgtQ allL
  rw [Bool.eq_iff_iff]
  simp [and_assoc]
set_option maxHeartbeats 1000000 in
set_option maxRecDepth 100000 in
theorem qright_W {la ea : Option Addr} {n lc m ec : Nat} {ls : List (List UInt8)} (w : World) (HL : Hid (LnsAt w la lc ls)) (hn : Hid (ls.length = n)) (hn63 : n ≤ 9223372036854775807) (x : Bool) (hx : Hid (rgtQ ls n m = x)) :
    Calls Tryd.prog 14 #[.agg #[.slice la n lc, .slice ea m ec]] w fun e w' => e = .returned (.bool x) ∧ Below w.heap.size w w' := by
  have B0 := Lib.hid (below_alloc w (.cells #[.slice la n lc, .slice ea m ec] 25))
  have D0 := Lib.hid (heap_alloc_new w (.cells #[.slice la n lc, .slice ea m ec] 25))
  have H2 := Lib.hid (HL.out.step B0.out)
  go_enter Tryd.func14, Tryd.ntmps14
  go_upto_region 1 with fail
  generalize w.alloc (.cells #[.slice la n lc, .slice ea m ec] 25) = wx at B0 D0 H2 ⊢
  have G0 := pair_at D0.out
  have l0 := heap_lt D0.out
  go_cut [3] from 6 to 15 (fun v wy => v = .bool (decide (m ≤ 64 ∧ n ≤ 400)) ∧ wy = wx)
  case first =>
    by_cases h1 : m ≤ 64
    · have h1' : decide ((m : Int) < 65) = true := by simp; omega
      by_cases h2 : n ≤ 400
      · have h2' : decide ((n : Int) < 401) = true := by simp; omega
        have e0 : decide (m ≤ 64 ∧ n ≤ 400) = true := decide_eq_true ⟨h1, h2⟩
        have E0 := Lib.hid e0
        clear e0
        go_wp2_with fail
        go_meet
        exact ⟨by rw [E0.out], rfl⟩
      · have h2' : decide ((n : Int) < 401) = false := by simp; omega
        have e0 : decide (m ≤ 64 ∧ n ≤ 400) = false := decide_eq_false (fun h => h2 h.2)
        have E0 := Lib.hid e0
        clear e0
        go_wp2_with fail
        go_meet
        exact ⟨by rw [E0.out], rfl⟩
    · have h1' : decide ((m : Int) < 65) = false := by simp; omega
      have e0 : decide (m ≤ 64 ∧ n ≤ 400) = false := decide_eq_false (fun h => h1 h.1)
      have E0 := Lib.hid e0
      clear e0
      go_wp2_with fail
      go_meet
      exact ⟨by rw [E0.out], rfl⟩
  case rest =>
    obtain ⟨rfl, rfl⟩ := hcut
    obtain ⟨b0, hb0⟩ : ∃ b, decide (m ≤ 64 ∧ n ≤ 400) = b := ⟨_, rfl⟩
    have HB := Lib.hid hb0
    rw [hb0]
    clear hb0
    have G1 := pair_at D0.out
    have l1 := heap_lt D0.out
    go_wp2_with fail
    go_loopw [3, 19] (fun v i wr => ∃ k : Nat, k ≤ n ∧ i = .int .i64 k ∧ v = .bool (b0 && allL (ls.take k)) ∧ wr = wc) (fun _ i _ => n - (intOf i).toNat)
    case atStart => exact ⟨0, Nat.zero_le _, rfl, by simp [allL], rfl⟩
    case round =>
      obtain ⟨k, hk, rfl, rfl, rfl⟩ := hrel
      by_cases hlt : k < n
      · obtain ⟨l, hl⟩ : ∃ l, ls[k]? = some l := ⟨ls[k]'(by rw [hn.out]; exact hlt), List.getElem?_eq_getElem _⟩
        obtain ⟨b, off, a, c, rfl, hb, hc, _⟩ := at_line H2.out hl
        have HE := Lib.hid (allL_next hl)
        obtain ⟨y, hy⟩ : ∃ y, l.length = y := ⟨_, rfl⟩
        rw [hy] at hc HE
        clear hl hy
        obtain ⟨b1, hb1⟩ : ∃ b1, (b0 && allL (ls.take k)) = b1 := ⟨_, rfl⟩
        have HB1 := Lib.hid hb1
        rw [hb1]
        have HNX : Hid ((b0 && allL (ls.take (k + 1))) = (b1 && decide (y ≤ 65))) := Lib.hid (by rw [← hb1, HE.out, Bool.and_assoc])
        clear hb1
        by_cases h3 : y ≤ 65
        · have h3' : decide ((y : Int) < 66) = true := by simp; omega
          have HV : Hid ((b1 && decide (y ≤ 65)) = b1) := Lib.hid (by rw [decide_eq_true h3, Bool.and_true])
          cases b1
          all_goals go_wp2_with fail
          all_goals go_roundw
          all_goals first | exact ⟨k + 1, by omega, by go_num, by rw [HNX.out, HV.out], by trivial⟩ | (simp [intOf]; omega)
        · have h3' : decide ((y : Int) < 66) = false := by simp; omega
          have HV : Hid ((b1 && decide (y ≤ 65)) = false) := Lib.hid (by rw [decide_eq_false h3, Bool.and_false])
          cases b1
          all_goals go_wp2_with fail
          all_goals go_roundw
          all_goals first | exact ⟨k + 1, by omega, by go_num, by rw [HNX.out, HV.out], by trivial⟩ | (simp [intOf]; omega)
      · obtain rfl : k = n := by omega
        have ht : ls.take k = ls := by rw [← hn.out, List.take_length]
        have e1 : (b0 && allL (ls.take k)) = x := by
          rw [ht, ← hx.out, ← HB.out]
          exact rgtQ_all ls k m
        rw [e1]
        clear ht e1
        go_wp2_with fail
        go_ret
        exact ⟨rfl, B0.out⟩
set_option maxHeartbeats 1000000 in
set_option maxRecDepth 100000 in
theorem suffix0_W (w : World) : Calls Tryd.prog 29 #[.string (strB []), .string ⟨#[32]⟩] w fun e w' => e = .returned (.bool false) ∧ w' = w := by
  have sz : (strB []).size = 0 := rfl
  have HI : Hid (Calls Tryd.prog 37 #[.string (strB []), .string ⟨#[32]⟩] w fun e w' => e = .returned (.bool false) ∧ w' = w) := Lib.hid (by
    go_enter Tryd.func37, Tryd.ntmps37
    go_wp2_with fail
    go_ret
    exact ⟨rfl, rfl⟩)
  go_enter Tryd.func29, Tryd.ntmps29
  go_wp2_with (first
    | (go_at_call 37; (with_reducible refine HI.out.mono ?_); rintro e w1 ⟨rfl, rfl⟩)
    | fail)
  go_ret
  exact ⟨rfl, rfl⟩
set_option maxHeartbeats 1000000 in
set_option maxRecDepth 100000 in
theorem suffix1_W (w : World) (r : List UInt8) (x : UInt8) (hr : r.length ≤ 65) (v : Bool) (hv : Hid (decide (x = 32) = v)) : Calls Tryd.prog 29 #[.string (strB (r ++ [x])), .string ⟨#[32]⟩] w fun e w' => e = .returned (.bool v) ∧ w' = w := by
  obtain ⟨k, hk⟩ : ∃ k, r.length = k := ⟨_, rfl⟩
  have sz : (strB (r ++ [x])).size = k + 1 := by rw [strB_size, List.length_append, hk]; rfl
  have ed : (r ++ [x]).drop k = [x] := by rw [← hk, List.drop_left]
  have sx : ∀ W, (Instr.slice 9 (.string (strB (r ++ [x]))) (some (.int .i64 (k : Nat))) none none).run Tryd.prog W = .ok (.string (strB [x])) W := fun W => by
    rw [str_from (r ++ [x]) k (by rw [List.length_append, hk]; omega) W, ed]
  have sl : ∀ l, (strB l).toList = l := strB_list
  have xl : ([x] == [(32 : UInt8)]) = v := by rw [← hv.out]; simp; rfl
  have xl2 : (x == (32 : UInt8)) = v := hv.out
  have wk : wrap64 (k : Int) = (k : Int) := by simp only [wrap64]; omega
  have se : ((strB (r ++ [x])).extract k (k + 1)).toList = [x] := by
    have h := strB_drop (r ++ [x]) k
    rw [sz, ed] at h
    rw [h, sl]
  have w1 : IntKind.i64.wrap ((k : Int) + 1 - 1) = (k : Int) := by rw [IntKind.wrap_i64]; omega
  have hge : ((k : Int) + 1 ≥ 1) := by omega
  generalize strB (r ++ [x]) = S at sz sx se ⊢
  clear ed hk hr
  have HI : Hid (Calls Tryd.prog 37 #[.string S, .string ⟨#[32]⟩] w fun e w' => e = .returned (.bool v) ∧ w' = w) := Lib.hid (by
    go_enter Tryd.func37, Tryd.ntmps37
    go_wp2_with fail
    go_ret
    exact ⟨rfl, rfl⟩)
  go_enter Tryd.func29, Tryd.ntmps29
  go_wp2_with (first
    | (go_at_call 37; (with_reducible refine HI.out.mono ?_); rintro e w1 ⟨rfl, rfl⟩)
    | fail)
  go_ret
  exact ⟨rfl, rfl⟩
set_option maxHeartbeats 1000000 in
set_option maxRecDepth 100000 in
theorem lastS_W (xs : List UInt8) (n : Nat) (w : World) (H1 : Hid (xs.length = n)) (hn : n ≤ 9223372036854775807) :
    Calls Tryd.prog 38 #[.string (strB xs), .int .u8 32] w fun e w' => e = .returned (.int .i64 ((lastL xs : Int) - 1)) ∧ w' = w := by
  have w0 : IntKind.i64.wrap ((n : Int) - 1) = (n : Int) - 1 := by rw [IntKind.wrap_i64]; omega
  have sz : (strB xs).size = n := (strB_size xs).trans H1.out
  go_enter Tryd.func38, Tryd.ntmps38
  go_wp2_with fail
  go_loopw [5] (fun v wr => ∃ k : Nat, k ≤ n ∧ v = .int .i64 ((k : Int) - 1) ∧ cutQ (fun b => !decide (b = 32)) (xs.take k) = cutQ (fun b => !decide (b = 32)) xs ∧ wr = w) (fun v _ => (intOf v + 1).toNat)
  case atStart => exact ⟨n, Nat.le_refl _, rfl, by rw [← H1.out, List.take_length], rfl⟩
  case round =>
    obtain ⟨k, hk, rfl, hcut, rfl⟩ := hrel
    cases k with
    | zero =>
      have E0 : Hid (lastL xs = 0) := Lib.hid (by unfold lastL keepL; rw [← hcut]; rfl)
      clear hcut
      go_wp2_with fail
      go_ret
      refine ⟨?_, rfl⟩
      rw [E0.out]
      rfl
    | succ k =>
      obtain ⟨x, hx⟩ : ∃ x, xs[k]? = some x := ⟨xs[k]'(by rw [H1.out]; omega), List.getElem?_eq_getElem _⟩
      have ix := fun W => str_at' xs k x hx W
      have ek : ((k + 1 : Nat) : Int) - 1 = (k : Int) := by omega
      rw [ek]
      have w1 : IntKind.i64.wrap ((k : Int) - 1) = (k : Int) - 1 := by rw [IntKind.wrap_i64]; omega
      have hge : ((k : Int) ≥ 0) := by omega
      have hs : xs.take (k + 1) = xs.take k ++ [x] := by rw [List.take_add_one, hx]; rfl
      rw [hs, cut_snoc] at hcut
      clear hx hs
      by_cases hxc : x = 32
      · have he : (ub x == 32) = true := by rw [hxc]; rfl
        rw [if_neg (by simp [hxc])] at hcut
        have E0 : Hid (lastL xs = k + 1) := Lib.hid (by
          unfold lastL keepL
          rw [← hcut, List.length_append, List.length_take, H1.out]
          simp
          omega)
        clear hcut
        go_wp2_with fail
        go_ret
        refine ⟨?_, rfl⟩
        rw [E0.out, ek]
        rfl
      · have he : (ub x == 32) = false := by
          have := ub_eq x 32
          rw [decide_eq_false hxc] at this
          exact this
        rw [if_pos (by simp [hxc])] at hcut
        have HC := Lib.hid hcut
        clear hcut
        go_wp2_with fail
        go_roundw
        case rel => exact ⟨k, by omega, rfl, HC.out, by trivial⟩
        case measure => simp [intOf]
theorem lastStr_W (xs : List UInt8) (n : Nat) (w : World) (H1 : Hid (xs.length = n)) (hn : n ≤ 9223372036854775807) :
    Calls Tryd.prog 30 #[.string (strB xs), .int .u8 32] w fun e w' => e = .returned (.int .i64 ((lastL xs : Int) - 1)) ∧ w' = w := by
  have HT := Lib.hid (lastS_W xs n w H1 hn)
  go_enter Tryd.func30, Tryd.ntmps30
  go_wp2_with (first
    | (go_at_call 38; (with_reducible refine HT.out.mono ?_); rintro e w1 ⟨rfl, rfl⟩)
    | fail)
  go_ret
  exact ⟨rfl, rfl⟩
end Go.Proofs.YtomgifdnnfbpnaaDoor
