/- corebellkeep.plain; slices.ContainsFunc at bytes, with the three functions that are handed to it. -/
import Derived.Test.YtomgifdnnfbpnaaDoorTyB
import Derived.Test.YtomgifdnnfbpnaaDoorTyC
namespace Go.Proofs.YtomgifdnnfbpnaaDoor
open Go.RowKit

theorem ne_of {b c : UInt8} (h : ¬ b = c) : (ub b != ub c) = true := by
  have := ub_eq b c
  rw [decide_eq_false h] at this
  simp [bne, this]
set_option maxHeartbeats 1000000 in
set_option maxRecDepth 100000 in
theorem plain_W (b : UInt8) (w : World) (x : Bool) (hx : Hid (decide (plainQ b) = x)) : Calls Tryd.prog 19 #[.int .u8 (ub b)] w fun e w' => e = .returned (.bool x) ∧ w' = w := by
  rcases key_cases b with rfl | rfl | rfl | rfl | rfl | hp
  · obtain rfl : x = false := by rw [← hx.out]; rfl
    rw [show ub 8 = 8 from rfl]
    go_enter Tryd.func19, Tryd.ntmps19
    go_wp2_with fail
    go_ret
    exact ⟨rfl, rfl⟩
  · obtain rfl : x = false := by rw [← hx.out]; rfl
    rw [show ub 21 = 21 from rfl]
    go_enter Tryd.func19, Tryd.ntmps19
    go_wp2_with fail
    go_ret
    exact ⟨rfl, rfl⟩
  · obtain rfl : x = false := by rw [← hx.out]; rfl
    rw [show ub 23 = 23 from rfl]
    go_enter Tryd.func19, Tryd.ntmps19
    go_wp2_with fail
    go_ret
    exact ⟨rfl, rfl⟩
  · obtain rfl : x = false := by rw [← hx.out]; rfl
    rw [show ub 10 = 10 from rfl]
    go_enter Tryd.func19, Tryd.ntmps19
    go_wp2_with fail
    go_ret
    exact ⟨rfl, rfl⟩
  · obtain rfl : x = false := by rw [← hx.out]; rfl
    rw [show ub 4 = 4 from rfl]
    go_enter Tryd.func19, Tryd.ntmps19
    go_wp2_with fail
    go_ret
    exact ⟨rfl, rfl⟩
  · obtain rfl : x = true := by rw [← hx.out]; exact decide_eq_true hp
    obtain ⟨h8, h21, h4, h10, h23⟩ := hp
    have q1 := ne_of h8
    have q2 := ne_of h21
    have q3 := ne_of h4
    have q4 := ne_of h10
    have q5 := ne_of h23
    rw [show ub 8 = 8 from rfl] at q1
    rw [show ub 21 = 21 from rfl] at q2
    rw [show ub 4 = 4 from rfl] at q3
    rw [show ub 10 = 10 from rfl] at q4
    rw [show ub 23 = 23 from rfl] at q5
    clear hx h8 h21 h4 h10 h23
    go_enter Tryd.func19, Tryd.ntmps19
    go_wp2_with fail
    go_ret
    exact ⟨rfl, rfl⟩
theorem any_next {p : UInt8 → Bool} {l : List UInt8} {k : Nat} {x : UInt8} (h : l[k]? = some x) : (l.take (k + 1)).any p = ((l.take k).any p || p x) := by
  have e : l.take (k + 1) = l.take k ++ [x] := by rw [List.take_add_one, h]; rfl
  rw [e]
  simp
theorem any_of {p : UInt8 → Bool} {l : List UInt8} {k : Nat} {x : UInt8} (h : l[k]? = some x) (hp : p x = true) : l.any p = true := List.any_eq_true.2 ⟨x, List.mem_of_getElem? h, hp⟩
/-- No key that mends, or ends. -/
def pE (b : UInt8) : Bool := !decide (plainQ b)
def pW (b : UInt8) : Bool := !decide (plainQ b) || decide (b = 32)
set_option maxHeartbeats 1000000 in
set_option maxRecDepth 100000 in
theorem cloE_W (b : UInt8) (w : World) (x : Bool) (hx : Hid (pE b = x)) : Calls Tryd.prog 22 #[.int .u8 (ub b)] w fun e w' => e = .returned (.bool x) ∧ w' = w := by
  obtain ⟨y, hy⟩ : ∃ y, decide (plainQ b) = y := ⟨_, rfl⟩
  obtain rfl : x = !y := by rw [← hx.out, ← hy]; rfl
  have HY := Lib.hid hy
  clear hx hy
  go_enter Tryd.func22, Tryd.ntmps22
  go_wp2_with (first
    | (go_at_call 19; (with_reducible refine (plain_W b _ y HY).mono ?_); rintro e w1 ⟨rfl, rfl⟩)
    | fail)
  go_ret
  exact ⟨rfl, rfl⟩
set_option maxHeartbeats 1000000 in
set_option maxRecDepth 100000 in
theorem idxE_W {ad : Option Addr} {cap n : Nat} {l : List UInt8} (w : World) (HA : Hid (shB.At w ad cap l)) (hn : Hid (l.length = n)) (hn63 : n ≤ 9223372036854775807) (x : Bool) (hx : Hid (l.any pE = x)) :
    Calls Tryd.prog 33 #[.slice ad n cap, .func (.func 22) #[] #[]] w fun e w' => (∃ r : Int, decide (r ≥ 0) = x ∧ e = .returned (.int .i64 r)) ∧ w' = w := by
  go_enter Tryd.func33, Tryd.ntmps33
  go_wp2_with fail
  go_loopw [8] (fun i wr => ∃ k : Nat, k ≤ n ∧ i = .int .i64 k ∧ Hid ((l.take k).any pE = false) ∧ wr = w) (fun i _ => n - (intOf i).toNat)
  case atStart => exact ⟨0, Nat.zero_le _, rfl, Lib.hid rfl, rfl⟩
  case round =>
    obtain ⟨k, hk, rfl, HN, rfl⟩ := hrel
    by_cases hlt : k < n
    · obtain ⟨b, hb⟩ : ∃ b, l[k]? = some b := ⟨l[k]'(by rw [hn.out]; exact hlt), List.getElem?_eq_getElem _⟩
      obtain ⟨bb, off, rfl, hbl, hc⟩ := at_byte HA.out hb
      have HX := Lib.hid (any_next (p := pE) hb)
      have HB := Lib.hid hb
      clear hb
      obtain ⟨y, hy⟩ : ∃ y, pE b = y := ⟨_, rfl⟩
      have HY := Lib.hid hy
      clear hy
      cases y with
      | true =>
        obtain rfl : x = true := by rw [← hx.out]; exact any_of HB.out HY.out
        go_wp2_with (first
          | (go_at_call 22; (with_reducible refine (cloE_W b _ true HY).mono ?_); rintro e w1 ⟨rfl, rfl⟩)
          | fail)
        go_ret
        exact ⟨⟨(k : Int), decide_eq_true (by omega), rfl⟩, rfl⟩
      | false =>
        go_wp2_with (first
          | (go_at_call 22; (with_reducible refine (cloE_W b _ false HY).mono ?_); rintro e w1 ⟨rfl, rfl⟩)
          | fail)
        go_roundw
        case rel => exact ⟨k + 1, by omega, by go_num, Lib.hid (by rw [HX.out, HN.out, HY.out]; rfl), by trivial⟩
        case measure => simp [intOf]; omega
    · obtain rfl : k = n := by omega
      obtain rfl : x = false := by
        have h := HN.out
        rw [← hn.out, List.take_length] at h
        rw [← hx.out, h]
      go_wp2_with fail
      go_ret
      exact ⟨⟨-1, rfl, rfl⟩, rfl⟩
theorem conE_W {ad : Option Addr} {cap n : Nat} {l : List UInt8} (w : World) (HA : Hid (shB.At w ad cap l)) (hn : Hid (l.length = n)) (hn63 : n ≤ 9223372036854775807) (x : Bool) (hx : Hid (l.any pE = x)) :
    Calls Tryd.prog 21 #[.slice ad n cap, .func (.func 22) #[] #[]] w fun e w' => e = .returned (.bool x) ∧ w' = w := by
  have HT := Lib.hid (idxE_W (ad := ad) (cap := cap) w HA hn hn63 x hx)
  go_enter Tryd.func21, Tryd.ntmps21
  go_wp2_with (first
    | (go_at_call 33; (with_reducible refine HT.out.mono ?_); rintro e w1 ⟨⟨r, hr, rfl⟩, rfl⟩)
    | fail)
  go_ret
  exact ⟨rfl, rfl⟩
set_option maxHeartbeats 1000000 in
set_option maxRecDepth 100000 in
theorem cloP_W (b : UInt8) (w : World) (x : Bool) (hx : Hid (pE b = x)) : Calls Tryd.prog 23 #[.int .u8 (ub b)] w fun e w' => e = .returned (.bool x) ∧ w' = w := by
  obtain ⟨y, hy⟩ : ∃ y, decide (plainQ b) = y := ⟨_, rfl⟩
  obtain rfl : x = !y := by rw [← hx.out, ← hy]; rfl
  have HY := Lib.hid hy
  clear hx hy
  go_enter Tryd.func23, Tryd.ntmps23
  go_wp2_with (first
    | (go_at_call 19; (with_reducible refine (plain_W b _ y HY).mono ?_); rintro e w1 ⟨rfl, rfl⟩)
    | fail)
  go_ret
  exact ⟨rfl, rfl⟩
set_option maxHeartbeats 1000000 in
set_option maxRecDepth 100000 in
theorem idxP_W {ad : Option Addr} {cap n : Nat} {l : List UInt8} (w : World) (HA : Hid (shB.At w ad cap l)) (hn : Hid (l.length = n)) (hn63 : n ≤ 9223372036854775807) (x : Bool) (hx : Hid (l.any pE = x)) :
    Calls Tryd.prog 33 #[.slice ad n cap, .func (.func 23) #[] #[]] w fun e w' => (∃ r : Int, decide (r ≥ 0) = x ∧ e = .returned (.int .i64 r)) ∧ w' = w := by
  go_enter Tryd.func33, Tryd.ntmps33
  go_wp2_with fail
  go_loopw [8] (fun i wr => ∃ k : Nat, k ≤ n ∧ i = .int .i64 k ∧ Hid ((l.take k).any pE = false) ∧ wr = w) (fun i _ => n - (intOf i).toNat)
  case atStart => exact ⟨0, Nat.zero_le _, rfl, Lib.hid rfl, rfl⟩
  case round =>
    obtain ⟨k, hk, rfl, HN, rfl⟩ := hrel
    by_cases hlt : k < n
    · obtain ⟨b, hb⟩ : ∃ b, l[k]? = some b := ⟨l[k]'(by rw [hn.out]; exact hlt), List.getElem?_eq_getElem _⟩
      obtain ⟨bb, off, rfl, hbl, hc⟩ := at_byte HA.out hb
      have HX := Lib.hid (any_next (p := pE) hb)
      have HB := Lib.hid hb
      clear hb
      obtain ⟨y, hy⟩ : ∃ y, pE b = y := ⟨_, rfl⟩
      have HY := Lib.hid hy
      clear hy
      cases y with
      | true =>
        obtain rfl : x = true := by rw [← hx.out]; exact any_of HB.out HY.out
        go_wp2_with (first
          | (go_at_call 23; (with_reducible refine (cloP_W b _ true HY).mono ?_); rintro e w1 ⟨rfl, rfl⟩)
          | fail)
        go_ret
        exact ⟨⟨(k : Int), decide_eq_true (by omega), rfl⟩, rfl⟩
      | false =>
        go_wp2_with (first
          | (go_at_call 23; (with_reducible refine (cloP_W b _ false HY).mono ?_); rintro e w1 ⟨rfl, rfl⟩)
          | fail)
        go_roundw
        case rel => exact ⟨k + 1, by omega, by go_num, Lib.hid (by rw [HX.out, HN.out, HY.out]; rfl), by trivial⟩
        case measure => simp [intOf]; omega
    · obtain rfl : k = n := by omega
      obtain rfl : x = false := by
        have h := HN.out
        rw [← hn.out, List.take_length] at h
        rw [← hx.out, h]
      go_wp2_with fail
      go_ret
      exact ⟨⟨-1, rfl, rfl⟩, rfl⟩
theorem conP_W {ad : Option Addr} {cap n : Nat} {l : List UInt8} (w : World) (HA : Hid (shB.At w ad cap l)) (hn : Hid (l.length = n)) (hn63 : n ≤ 9223372036854775807) (x : Bool) (hx : Hid (l.any pE = x)) :
    Calls Tryd.prog 21 #[.slice ad n cap, .func (.func 23) #[] #[]] w fun e w' => e = .returned (.bool x) ∧ w' = w := by
  have HT := Lib.hid (idxP_W (ad := ad) (cap := cap) w HA hn hn63 x hx)
  go_enter Tryd.func21, Tryd.ntmps21
  go_wp2_with (first
    | (go_at_call 33; (with_reducible refine HT.out.mono ?_); rintro e w1 ⟨⟨r, hr, rfl⟩, rfl⟩)
    | fail)
  go_ret
  exact ⟨rfl, rfl⟩
set_option maxHeartbeats 1000000 in
set_option maxRecDepth 100000 in
theorem cloW_W (b : UInt8) (w : World) (x : Bool) (hx : Hid (pW b = x)) : Calls Tryd.prog 24 #[.int .u8 (ub b)] w fun e w' => e = .returned (.bool x) ∧ w' = w := by
  obtain ⟨y, hy⟩ : ∃ y, decide (plainQ b) = y := ⟨_, rfl⟩
  have HY := Lib.hid hy
  have h2 := ub_eq b 32
  rw [show ub 32 = 32 from rfl] at h2
  obtain ⟨z, hz⟩ : ∃ z, decide (b = 32) = z := ⟨_, rfl⟩
  rw [hz] at h2
  have e : x = (!y || z) := by rw [← hx.out, ← hy, ← hz]; rfl
  subst e
  clear hx hy hz
  cases y
  all_goals go_enter Tryd.func24, Tryd.ntmps24
  all_goals go_wp2_with (first
    | (go_at_call 19; (with_reducible refine (plain_W b _ _ HY).mono ?_); rintro e w1 ⟨rfl, rfl⟩)
    | fail)
  all_goals go_ret
  all_goals exact ⟨rfl, rfl⟩
set_option maxHeartbeats 1000000 in
set_option maxRecDepth 100000 in
theorem idxW_W {ad : Option Addr} {cap n : Nat} {l : List UInt8} (w : World) (HA : Hid (shB.At w ad cap l)) (hn : Hid (l.length = n)) (hn63 : n ≤ 9223372036854775807) (x : Bool) (hx : Hid (l.any pW = x)) :
    Calls Tryd.prog 33 #[.slice ad n cap, .func (.func 24) #[] #[]] w fun e w' => (∃ r : Int, decide (r ≥ 0) = x ∧ e = .returned (.int .i64 r)) ∧ w' = w := by
  go_enter Tryd.func33, Tryd.ntmps33
  go_wp2_with fail
  go_loopw [8] (fun i wr => ∃ k : Nat, k ≤ n ∧ i = .int .i64 k ∧ Hid ((l.take k).any pW = false) ∧ wr = w) (fun i _ => n - (intOf i).toNat)
  case atStart => exact ⟨0, Nat.zero_le _, rfl, Lib.hid rfl, rfl⟩
  case round =>
    obtain ⟨k, hk, rfl, HN, rfl⟩ := hrel
    by_cases hlt : k < n
    · obtain ⟨b, hb⟩ : ∃ b, l[k]? = some b := ⟨l[k]'(by rw [hn.out]; exact hlt), List.getElem?_eq_getElem _⟩
      obtain ⟨bb, off, rfl, hbl, hc⟩ := at_byte HA.out hb
      have HX := Lib.hid (any_next (p := pW) hb)
      have HB := Lib.hid hb
      clear hb
      obtain ⟨y, hy⟩ : ∃ y, pW b = y := ⟨_, rfl⟩
      have HY := Lib.hid hy
      clear hy
      cases y with
      | true =>
        obtain rfl : x = true := by rw [← hx.out]; exact any_of HB.out HY.out
        go_wp2_with (first
          | (go_at_call 24; (with_reducible refine (cloW_W b _ true HY).mono ?_); rintro e w1 ⟨rfl, rfl⟩)
          | fail)
        go_ret
        exact ⟨⟨(k : Int), decide_eq_true (by omega), rfl⟩, rfl⟩
      | false =>
        go_wp2_with (first
          | (go_at_call 24; (with_reducible refine (cloW_W b _ false HY).mono ?_); rintro e w1 ⟨rfl, rfl⟩)
          | fail)
        go_roundw
        case rel => exact ⟨k + 1, by omega, by go_num, Lib.hid (by rw [HX.out, HN.out, HY.out]; rfl), by trivial⟩
        case measure => simp [intOf]; omega
    · obtain rfl : k = n := by omega
      obtain rfl : x = false := by
        have h := HN.out
        rw [← hn.out, List.take_length] at h
        rw [← hx.out, h]
      go_wp2_with fail
      go_ret
      exact ⟨⟨-1, rfl, rfl⟩, rfl⟩
theorem conW_W {ad : Option Addr} {cap n : Nat} {l : List UInt8} (w : World) (HA : Hid (shB.At w ad cap l)) (hn : Hid (l.length = n)) (hn63 : n ≤ 9223372036854775807) (x : Bool) (hx : Hid (l.any pW = x)) :
    Calls Tryd.prog 21 #[.slice ad n cap, .func (.func 24) #[] #[]] w fun e w' => e = .returned (.bool x) ∧ w' = w := by
  have HT := Lib.hid (idxW_W (ad := ad) (cap := cap) w HA hn hn63 x hx)
  go_enter Tryd.func21, Tryd.ntmps21
  go_wp2_with (first
    | (go_at_call 33; (with_reducible refine HT.out.mono ?_); rintro e w1 ⟨⟨r, hr, rfl⟩, rfl⟩)
    | fail)
  go_ret
  exact ⟨rfl, rfl⟩
end Go.Proofs.YtomgifdnnfbpnaaDoor
