/- Package tty: the walks of Right, check, complete. -/
import Derived.Test.YtomgifdnnfbpnaaDoorTyB
namespace Go.Proofs.YtomgifdnnfbpnaaDoor
open Go.RowKit

/-- Is it right? -/
def rgtQ (ls : List (List UInt8)) (n m : Nat) : Bool := decide (m ≤ 64 ∧ n ≤ 400 ∧ ∀ l ∈ ls, l.length ≤ 65)
theorem rgtQ_parts {ls : List (List UInt8)} {n m : Nat} (h : rgtQ ls n m = true) : m ≤ 64 ∧ n ≤ 400 ∧ ∀ l ∈ ls, l.length ≤ 65 := of_decide_eq_true h
theorem good_rgt {s : StQ} (h : GoodQ s) : rgtQ s.lines s.lines.length s.edit.length = true := decide_eq_true ⟨h.edit, h.many, h.lens⟩
theorem rgt_good {s : StQ} (h : rgtQ s.lines s.lines.length s.edit.length = true) : GoodQ s := by
  obtain ⟨h1, h2, h3⟩ := rgtQ_parts h
  exact ⟨h1, h2, h3⟩
set_option maxHeartbeats 1000000 in
set_option maxRecDepth 100000 in
theorem right_W {la ea : Option Addr} {n lc m ec : Nat} {ls : List (List UInt8)} (w : World) (HL : Hid (LnsAt w la lc ls)) (hn : Hid (ls.length = n)) (x : Bool) (hx : Hid (rgtQ ls n m = x)) :
    Calls Tryd.prog 13 #[.agg #[.slice la n lc, .slice ea m ec]] w fun e w' => e = .returned (.bool x) ∧ Below w.heap.size w w' := by
  have B0 := Lib.hid (below_alloc w (.cells #[.slice la n lc, .slice ea m ec] 25))
  by_cases h1 : m ≤ 64
  · have h1' : decide ((m : Int) > 64) = false := by simp; omega
    by_cases h2 : n ≤ 400
    · have h2' : decide ((n : Int) > 400) = false := by simp; omega
      have H2 := Lib.hid (HL.out.step B0.out)
      go_enter Tryd.func13, Tryd.ntmps13
      go_wp2_with fail
      generalize w.alloc (.cells #[.slice la n lc, .slice ea m ec] 25) = wx at B0 H2 ⊢
      go_loopw [18] (fun i wr => ∃ k : Nat, k ≤ n ∧ i = .int .i64 k ∧ Hid (∀ l ∈ ls.take k, l.length ≤ 65) ∧ wr = wx) (fun i _ => n - (intOf i).toNat)
      case atStart => exact ⟨0, Nat.zero_le _, rfl, Lib.hid (fun l hl => by simp at hl), rfl⟩
      case round =>
        obtain ⟨k, hk, rfl, hall, rfl⟩ := hrel
        by_cases hlt : k < n
        · obtain ⟨l, hl⟩ : ∃ l, ls[k]? = some l := ⟨ls[k]'(by rw [hn.out]; exact hlt), List.getElem?_eq_getElem _⟩
          obtain ⟨b, off, a, c, rfl, hb, hc, _⟩ := at_line H2.out hl
          have HS : Hid (ls.take (k + 1) = ls.take k ++ [l]) := Lib.hid (by rw [List.take_add_one, hl]; rfl)
          have HM : Hid (l ∈ ls) := Lib.hid (List.mem_of_getElem? hl)
          obtain ⟨y, hy⟩ : ∃ y, l.length = y := ⟨_, rfl⟩
          have HY := Lib.hid hy
          rw [hy] at hc
          clear hl hy
          by_cases h3 : y ≤ 65
          · have h3' : decide ((y : Int) > 65) = false := by simp; omega
            go_wp2_with fail
            go_roundw
            case rel => exact ⟨k + 1, by omega, by go_num, Lib.hid (fun q hq => by
              rw [HS.out] at hq
              rcases List.mem_append.1 hq with hq | hq
              · exact hall.out q hq
              · rw [List.mem_singleton] at hq; rw [hq, HY.out]; exact h3), by trivial⟩
            case measure => simp [intOf]; omega
          · have h3' : decide ((y : Int) > 65) = true := by simp; omega
            have e1 : x = false := by rw [← hx.out]; exact decide_eq_false (fun h => h3 (by rw [← HY.out]; exact h.2.2 l HM.out))
            subst e1
            go_wp2_with fail
            go_ret
            exact ⟨rfl, B0.out⟩
        · obtain rfl : k = n := by omega
          have e1 : x = true := by
            rw [← hx.out]
            refine decide_eq_true ⟨h1, h2, fun l hl => hall.out l ?_⟩
            rw [← hn.out, List.take_length]
            exact hl
          subst e1
          go_wp2_with fail
          go_ret
          exact ⟨rfl, B0.out⟩
    · have h2' : decide ((n : Int) > 400) = true := by simp; omega
      have e1 : x = false := by rw [← hx.out]; exact decide_eq_false (fun h => h2 h.2.1)
      subst e1
      go_enter Tryd.func13, Tryd.ntmps13
      go_wp2_with fail
      go_ret
      exact ⟨rfl, B0.out⟩
  · have h1' : decide ((m : Int) > 64) = true := by simp; omega
    have e1 : x = false := by rw [← hx.out]; exact decide_eq_false (fun h => h1 h.1)
    subst e1
    go_enter Tryd.func13, Tryd.ntmps13
    go_wp2_with fail
    go_ret
    exact ⟨rfl, B0.out⟩
/-- The error, by numbers. -/
def errN (n m : Nat) (b : UInt8) : Int :=
  if b = 10 ∨ b = 4 then if 400 ≤ n then 4 else 0
  else if plainQ b then if 64 ≤ m then 4 else 0
  else 0
theorem errN_eq (s : StQ) (b : UInt8) : errQ s b = errN s.lines.length s.edit.length b := rfl
theorem key_cases (b : UInt8) : b = 8 ∨ b = 21 ∨ b = 23 ∨ b = 10 ∨ b = 4 ∨ plainQ b := by
  by_cases h8 : b = 8
  · exact Or.inl h8
  by_cases h21 : b = 21
  · exact Or.inr (Or.inl h21)
  by_cases h23 : b = 23
  · exact Or.inr (Or.inr (Or.inl h23))
  by_cases h10 : b = 10
  · exact Or.inr (Or.inr (Or.inr (Or.inl h10)))
  by_cases h4 : b = 4
  · exact Or.inr (Or.inr (Or.inr (Or.inr (Or.inl h4))))
  exact Or.inr (Or.inr (Or.inr (Or.inr (Or.inr ⟨h8, h21, h4, h10, h23⟩))))
theorem plain_ne {b : UInt8} (h : plainQ b) : (ub b == 8) = false ∧ (ub b == 21) = false ∧ (ub b == 23) = false ∧ (ub b == 10) = false ∧ (ub b == 4) = false := by
  obtain ⟨h8, h21, h4, h10, h23⟩ := h
  refine ⟨?_, ?_, ?_, ?_, ?_⟩
  · have := ub_eq b 8; rw [decide_eq_false h8] at this; exact this
  · have := ub_eq b 21; rw [decide_eq_false h21] at this; exact this
  · have := ub_eq b 23; rw [decide_eq_false h23] at this; exact this
  · have := ub_eq b 10; rw [decide_eq_false h10] at this; exact this
  · have := ub_eq b 4; rw [decide_eq_false h4] at this; exact this
theorem eq_at {n k : Nat} (x : Bool) (h : decide (n = k) = x) : ((n : Int) == (k : Int)) = x := by
  rw [← h]
  by_cases e : n = k
  · subst e; simp
  · have : ¬ (n : Int) = k := by omega
    simp [e, this]
set_option maxHeartbeats 1000000 in
set_option maxRecDepth 100000 in
theorem check_W (la ea : Option Addr) (n lc m ec : Nat) (b : UInt8) (w : World) (hn : n ≤ 400) (hm : m ≤ 64) (x : Int) (hx : Hid (errN n m b = x)) :
    Calls Tryd.prog 26 #[.agg #[.slice la n lc, .slice ea m ec], .int .u8 (ub b)] w fun e w' => e = .returned (.int .i64 x) ∧ Below w.heap.size w w' := by
  have B0 := Lib.hid (below_alloc w (.cells #[.slice la n lc, .slice ea m ec] 25))
  rcases key_cases b with rfl | rfl | rfl | rfl | rfl | hp
  · obtain rfl : x = 0 := by rw [← hx.out]; rfl
    rw [show ub 8 = 8 from rfl]
    go_enter Tryd.func26, Tryd.ntmps26
    go_wp2_with fail
    go_ret
    exact ⟨rfl, B0.out⟩
  · obtain rfl : x = 0 := by rw [← hx.out]; rfl
    rw [show ub 21 = 21 from rfl]
    go_enter Tryd.func26, Tryd.ntmps26
    go_wp2_with fail
    go_ret
    exact ⟨rfl, B0.out⟩
  · obtain rfl : x = 0 := by rw [← hx.out]; rfl
    rw [show ub 23 = 23 from rfl]
    go_enter Tryd.func26, Tryd.ntmps26
    go_wp2_with fail
    go_ret
    exact ⟨rfl, B0.out⟩
  · rw [show ub 10 = 10 from rfl]
    have e0 : errN n m 10 = if 400 ≤ n then 4 else 0 := rfl
    by_cases h : n = 400
    · obtain rfl : x = 4 := by rw [← hx.out, e0, if_pos (by omega)]
      subst h
      go_enter Tryd.func26, Tryd.ntmps26
      go_wp2_with fail
      go_ret
      exact ⟨rfl, B0.out⟩
    · obtain rfl : x = 0 := by rw [← hx.out, e0, if_neg (by omega)]
      have h' : ((n : Int) == 400) = false := eq_at (k := 400) false (decide_eq_false h)
      go_enter Tryd.func26, Tryd.ntmps26
      go_wp2_with fail
      go_ret
      exact ⟨rfl, B0.out⟩
  · rw [show ub 4 = 4 from rfl]
    have e0 : errN n m 4 = if 400 ≤ n then 4 else 0 := rfl
    by_cases h : n = 400
    · obtain rfl : x = 4 := by rw [← hx.out, e0, if_pos (by omega)]
      subst h
      go_enter Tryd.func26, Tryd.ntmps26
      go_wp2_with fail
      go_ret
      exact ⟨rfl, B0.out⟩
    · obtain rfl : x = 0 := by rw [← hx.out, e0, if_neg (by omega)]
      have h' : ((n : Int) == 400) = false := eq_at (k := 400) false (decide_eq_false h)
      go_enter Tryd.func26, Tryd.ntmps26
      go_wp2_with fail
      go_ret
      exact ⟨rfl, B0.out⟩
  · obtain ⟨q1, q2, q3, q4, q5⟩ := plain_ne hp
    have e0 : errN n m b = if 64 ≤ m then 4 else 0 := by
      unfold errN
      rw [if_neg (fun h => by rcases h with h | h; exact hp.2.2.2.1 h; exact hp.2.2.1 h), if_pos hp]
    by_cases h : m = 64
    · obtain rfl : x = 4 := by rw [← hx.out, e0, if_pos (by omega)]
      subst h
      clear e0 hp hx
      go_enter Tryd.func26, Tryd.ntmps26
      go_wp2_with fail
      go_ret
      exact ⟨rfl, B0.out⟩
    · obtain rfl : x = 0 := by rw [← hx.out, e0, if_neg (by omega)]
      have h' : ((m : Int) == 64) = false := eq_at (k := 64) false (decide_eq_false h)
      clear e0 hp hx
      go_enter Tryd.func26, Tryd.ntmps26
      go_wp2_with fail
      go_ret
      exact ⟨rfl, B0.out⟩
/-- Where a terminal goes: what process and complete give. -/
def TtyOut (w0 w : World) (lv ev : Value) (n' m' : Nat) (lines' : List (List UInt8)) (edit' : List UInt8) (e : Ending) (w' : World) : Prop :=
  ∃ hs' la lc ea ec, e = .returned (.agg #[.slice la n' lc, .slice ea m' ec]) ∧ TtyQ w0 w' hs' (.slice la n' lc) (.slice ea m' ec) n' m' lines' edit' ∧ Kp w w' lv.ownBlock ev.ownBlock ∧ Fr w lv (.slice la n' lc) ∧ Fr w ev (.slice ea m' ec)
set_option maxHeartbeats 2000000 in
set_option maxRecDepth 100000 in
theorem complete_W {w0 w : World} {hs : List Hd} {la ea xa : Option Addr} {n lc m ec xm xc : Nat} {lines : List (List UInt8)} {edit : List UInt8} (H : Hid (TtyQ w0 w hs (.slice la n lc) (.slice ea m ec) n m lines edit)) (hn : n ≤ 400) :
    Calls Tryd.prog 36 #[.agg #[.slice la n lc, .slice xa xm xc], .slice ea m ec] w (TtyOut w0 w (.slice la n lc) (.slice ea m ec) (n + 1) 0 (lines ++ [edit]) []) := by
  obtain ⟨i0, hi, hz0, hz1, hz2⟩ := info_parts' info_bytes
  have hd := Lib.hid (heap_step (heap_alloc_new w (.cells #[.slice la n lc, .slice xa xm xc] 25)) (below_alloc _ (.cells #[.slice none 0 0, .slice none 0 0] 25)))
  have hz := Lib.hid (heap_alloc2_new w (.cells #[.slice la n lc, .slice xa xm xc] 25) (.cells #[.slice none 0 0, .slice none 0 0] 25))
  have hbx := Lib.hid (below_two w (.cells #[.slice la n lc, .slice xa xm xc] 25) (.cells #[.slice none 0 0, .slice none 0 0] 25))
  go_enter Tryd.func36, Tryd.ntmps36
  go_upto_region 1 with fail
  generalize (w.alloc (.cells #[.slice la n lc, .slice xa xm xc] 25)).alloc (.cells #[.slice none 0 0, .slice none 0 0] 25) = X at hd hz hbx ⊢
  have G0 := pair_at hd.out
  have l0 := heap_lt hd.out
  have bl := below_alloc X (.cells #[.slice ea m ec] 23)
  have D2 := Lib.hid ((H.out.step hbx.out).step bl)
  have d2 := Lib.hid (heap_step hd.out bl)
  have z2 := Lib.hid (heap_step hz.out bl)
  have B2 := Lib.hid (pstep hbx.out bl)
  have L2 : Hid (shL.At (X.alloc (.cells #[.slice ea m ec] 23)) (some ⟨X.heap.size, 0, none⟩) 1 [((ea, m, ec) : Hd)]) := Lib.hid (Shape.At.lit (S := shL) [((ea, m, ec) : Hd)] (heap_alloc_new X _))
  have hs0 := D2.out.b.size
  clear bl hd hz
  go_upto_region 2 with (first
    | (at_builtin; refine wpList_append_que shL rfl _ _ 22 rfl w0.heap.size 23 i0 _ 24 Tryd.underlying22 hi hz0 hz1 hz2 rfl (.slice la n lc) n hs [((ea, m, ec) : Hd)] rfl D2.out.l (some ⟨X.heap.size, 0, none⟩) 1 1 rfl (Lib.hid rfl) L2.out (by unfold maxLen; omega) (by omega) hs0 ?_; intro ra rc w4 own4 grow4 new4; have hf4 : Fr (X.alloc (.cells #[.slice ea m ec] 23)) (.slice la n lc) (.slice ra (n + 1) rc) := (fun g hg => (new4 g hg).imp id (fun e => by rw [e]; exact Nat.le_refl _)); have T4 := Lib.hid (D2.out.putL own4 grow4 hf4); have K4 := Lib.hid ((kp_below B2.out (Value.slice la n lc).ownBlock (Value.slice ea m ec).ownBlock).trans (kp_left grow4 _)); have F4 := Lib.hid (fr_le hf4 B2.out.size); have d4 := Lib.hid ((grow4.block _ (heap_lt d2.out) (fun e => que_apart D2.out.l _ _ _ d2.out (by decide) e.symm)).trans d2.out); have z4 := Lib.hid ((grow4.block _ (heap_lt z2.out) (fun e => que_apart D2.out.l _ _ _ z2.out (by decide) e.symm)).trans z2.out); have G4 := pair_at d4.out; have R4 := (fun i => frozen_of_row w4 w.heap.size i _ _ d4.out); have l4 := heap_lt d4.out; clear own4 grow4 new4 hf4)
    | fail)
  have hw0 : w0.heap.size ≤ w.heap.size := H.out.b.size
  have T5 := Lib.hid (T4.out.set0 d4.out hw0 0 (.slice ra (n + 1) rc))
  have K5 := Lib.hid (K4.out.set (B := w.heap.size) (i := 0) (Nat.le_refl _) (.slice ra (n + 1) rc))
  have d5 := Lib.hid (two_set0 (x' := .slice ra (n + 1) rc) d4.out)
  have z5 := Lib.hid ((Below.heap_setCell w4 ⟨w.heap.size, 0, none⟩ (.slice ra (n + 1) rc) (w.heap.size + 1) (by simp)).trans z4.out)
  generalize w4.setCell ⟨w.heap.size, 0, none⟩ (.slice ra (n + 1) rc) = w5 at T5 K5 d5 z5 ⊢
  clear T4 K4 d4 z4 G4 R4 l4 D2 d2 z2 L2 G0 l0
  have G5 := pair_at d5.out
  have R5 := (fun i => frozen_of_row w5 w.heap.size i _ _ d5.out)
  have l5 := heap_lt d5.out
  go_upto_region 3 with fail
  have T6 := Lib.hid (T5.out.set0 d5.out hw0 1 (.slice none 0 0))
  have K6 := Lib.hid (K5.out.set (B := w.heap.size) (i := 1) (Nat.le_refl _) (.slice none 0 0))
  have d6 := Lib.hid (two_set1 (y' := .slice none 0 0) d5.out)
  have z6 := Lib.hid ((Below.heap_setCell w5 ⟨w.heap.size, 1, none⟩ (.slice none 0 0) (w.heap.size + 1) (by simp)).trans z5.out)
  generalize w5.setCell ⟨w.heap.size, 1, none⟩ (.slice none 0 0) = w6 at T6 K6 d6 z6 ⊢
  clear T5 K5 d5 z5 G5 R5 l5
  have G6 := pair_at d6.out
  have R6 := (fun i => frozen_of_row w6 (w.heap.size + 1) i _ _ z6.out)
  have l6 := heap_lt d6.out
  have y6 := heap_lt z6.out
  have Y6 := pair_at z6.out
  go_wp2_with fail
  refine bodyPost_ret (results_row1 rfl _ _ (w.heap.size + 1) 25 #[.slice ra (n + 1) rc, .slice none 0 0] (0, 0) _ rfl (two_set z6.out) Tryd.underlying25 rfl size_tty) rfl ?_
  exact ⟨_, ra, rc, none, 0, rfl, T6.out.two z6.out (by omega) _, K6.out.two (by omega) _ _, F4.out, fr_nil _ _⟩
end Go.Proofs.YtomgifdnnfbpnaaDoor
