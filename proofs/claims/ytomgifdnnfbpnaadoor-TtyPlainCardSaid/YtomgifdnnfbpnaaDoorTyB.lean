/- Package bytes where package tty calls it: Clone, TrimRight by one blank, LastIndexByte; withoutWord. -/
import Derived.Test.YtomgifdnnfbpnaaDoorTyA
import Derived.Test.YtomgifdnnfbpnaaDoorStr
namespace Go.Proofs.YtomgifdnnfbpnaaDoor
open Go.RowKit

set_option maxHeartbeats 1000000 in
set_option maxRecDepth 100000 in
/-- A copy in a block of its own, or nil. -/
theorem clone_B {xs : List UInt8} {ad : Option Addr} {cap n : Nat} (w : World) (HA : Hid (shB.At w ad cap xs)) (H1 : Hid (xs.length = n)) (hn : n ≤ 140737488355328) :
    Calls Tryd.prog 31 #[.slice ad n cap] w fun e w' => ∃ ra rc, e = .returned (.slice ra n rc) ∧ Que shB w' w.heap.size tB (.slice ra n rc) n xs ∧ Below w.heap.size w w' := by
  obtain ⟨i0, hi, hz0, hz1, hz2⟩ := info_parts' info_byte
  cases ad with
  | none =>
    obtain ⟨rfl, rfl⟩ := HA.out.1 rfl
    obtain rfl : n = 0 := by rw [← H1.out]; rfl
    clear HA H1
    have qn := fun W a n c => eq_nil W a n c
    go_enter Tryd.func31, Tryd.ntmps31
    go_wp2_with fail
    go_ret
    exact ⟨_, _, rfl, que_nil _ _ _ _, Below.refl _ _⟩
  | some a =>
    have hown : Que shB (w.alloc (.cells #[] 5)) w.heap.size 5 (.slice (some ⟨w.heap.size, 0, none⟩) 0 0) 0 [] := que_own (World.ownsRow_made w #[] 0 (Nat.le_refl _) (by decide) rfl) rfl
    have HO := Lib.hid hown
    have HA2 := Lib.hid (HA.out.step (below_alloc w (.cells #[] 5)))
    clear hown
    have qn := fun W a n c => eq_nil W a n c
    go_enter Tryd.func31, Tryd.ntmps31
    go_wp2_with (first
      | (at_builtin; refine wpList_append_que shB rfl _ _ 23 rfl w.heap.size 5 i0 _ 1 Tryd.underlying23 hi hz0 hz1 hz2 rfl (.slice (some ⟨w.heap.size, 0, none⟩) 0 0) 0 [] xs rfl HO.out (some a) n cap rfl H1 HA2.out ?h63 ?hby ?hba ?_)
      | fail)
    case h63 => unfold maxLen; omega
    case hby => omega
    case hba => simp
    intro ra rc w3 own3 grow3 _
    have B3 : Below w.heap.size w w3 := (below_alloc w _).grown grow3 (by simp) (fun k hk => by simp [Value.ownBlock] at hk; omega)
    have O3 := Lib.hid own3
    clear own3 grow3
    go_wp2_with fail
    go_ret
    exact ⟨_, _, rfl, O3.out, B3⟩
theorem ub_eq (a b : UInt8) : (ub a == ub b) = decide (a = b) := by
  unfold ub
  by_cases h : a = b
  · subst h; simp
  · have : ¬ (a.toNat : Int) = b.toNat := fun e => h (UInt8.toNat_inj.1 (by omega))
    simp [h, this]
/-- How many are left where the last ones go. -/
def keepL (p : UInt8 → Bool) (l : List UInt8) : Nat := (cutQ p l).length
theorem cut_take (p : UInt8 → Bool) (l : List UInt8) : cutQ p l = l.take (keepL p l) := by
  unfold keepL
  rcases snoc_or l with rfl | ⟨r, x, rfl⟩
  · rfl
  · induction hr : r.length using Nat.strongRecOn generalizing r x with
    | _ k ih =>
      rw [cut_snoc]
      split
      · rcases snoc_or r with rfl | ⟨r', x', rfl⟩
        · rfl
        · have := ih r'.length (by rw [← hr]; simp) r' x' rfl
          rw [List.take_append_of_le_length (cut_leQ p _)]
          exact this
      · rw [List.take_length]
theorem keep_le (p : UInt8 → Bool) (l : List UInt8) : keepL p l ≤ l.length := cut_leQ p l
set_option maxHeartbeats 1000000 in
set_option maxRecDepth 100000 in
theorem trimByte_W {xs : List UInt8} {ad : Option Addr} {cap n : Nat} (w : World) (HA : Hid (shB.At w ad cap xs)) (H1 : Hid (xs.length = n)) (hn : n ≤ 9223372036854775807) (hc : n ≤ cap) (c : UInt8) :
    Calls Tryd.prog 43 #[.slice ad n cap, .int .u8 (ub c)] w fun e w' => e = .returned (.slice ad (keepL (fun b => decide (b = c)) xs) cap) ∧ w' = w := by
  go_enter Tryd.func43, Tryd.ntmps43
  go_wp2_with fail
  go_loopw [0] (fun v wr => ∃ k : Nat, k ≤ n ∧ v = .slice ad k cap ∧ cutQ (fun b => decide (b = c)) (xs.take k) = cutQ (fun b => decide (b = c)) xs ∧ wr = w) (fun v _ => (match v with | .slice _ k _ => k | _ => 0))
  case atStart => exact ⟨n, Nat.le_refl _, rfl, by rw [← H1.out, List.take_length], rfl⟩
  case round =>
    obtain ⟨k, hk, rfl, hcut, rfl⟩ := hrel
    cases k with
    | zero =>
      have e0 : keepL (fun b => decide (b = c)) xs = 0 := by unfold keepL; rw [← hcut]; rfl
      have E0 := Lib.hid e0
      clear e0 hcut
      go_wp2_with fail
      go_ret
      refine ⟨?_, rfl⟩
      rw [E0.out]
      rfl
    | succ k =>
      obtain ⟨x, hx⟩ : ∃ x, xs[k]? = some x := ⟨xs[k]'(by rw [H1.out]; omega), List.getElem?_eq_getElem _⟩
      obtain ⟨b, off, rfl, hb, hcell⟩ := at_byte HA.out hx
      have w1 : IntKind.i64.wrap ((k + 1 : Nat) - 1 : Int) = (k : Int) := by rw [IntKind.wrap_i64]; omega
      have h0 : ¬ ((k : Int) < 0) := by omega
      have hs : xs.take (k + 1) = xs.take k ++ [x] := by rw [List.take_add_one, hx]; rfl
      rw [hs, cut_snoc] at hcut
      have hgt : ((k + 1 : Nat) : Int) > 0 := by omega
      have HX := Lib.hid hx
      clear hx hs
      by_cases hxc : x = c
      · have he : (ub x == ub c) = true := by rw [ub_eq]; exact decide_eq_true hxc
        rw [if_pos (decide_eq_true hxc)] at hcut
        have HC := Lib.hid hcut
        clear hcut
        go_wp2_with fail
        go_roundw
        case rel => exact ⟨k, by omega, rfl, HC.out, by trivial⟩
        case measure => simp
      · have he : (ub x == ub c) = false := by rw [ub_eq]; exact decide_eq_false hxc
        rw [if_neg (by simpa using hxc)] at hcut
        have e0 : keepL (fun b => decide (b = c)) xs = k + 1 := by
          unfold keepL
          rw [← hcut, List.length_append, List.length_take, H1.out]
          simp
          omega
        have E0 := Lib.hid e0
        clear hcut e0
        go_wp2_with fail
        go_ret
        refine ⟨?_, rfl⟩
        rw [E0.out]
        rfl
set_option maxHeartbeats 1000000 in
set_option maxRecDepth 100000 in
theorem trim_W {xs : List UInt8} {ad : Option Addr} {cap n : Nat} (w : World) (HA : Hid (shB.At w ad cap xs)) (H1 : Hid (xs.length = n)) (hn : n ≤ 9223372036854775807) (hc : n ≤ cap) :
    Calls Tryd.prog 41 #[.slice ad n cap, .string ⟨#[32]⟩] w fun e w' => e = .returned (.slice ad (keepL (fun b => decide (b = 32)) xs) cap) ∧ w' = w := by
  by_cases h0 : n = 0
  · subst h0
    have e0 : xs = [] := List.eq_nil_of_length_eq_zero H1.out
    subst e0
    go_enter Tryd.func41, Tryd.ntmps41
    go_wp2_with fail
    go_ret
    exact ⟨rfl, rfl⟩
  · have h1 : ((n : Int) == 0) = false := by simp; omega
    have ix : ∀ W, (Instr.index 9 (.string ⟨#[32]⟩) (.int .i64 0)).run Tryd.prog W = .ok (.int .u8 32) W := fun W => str_index 32 [] W
    have HT := Lib.hid (trimByte_W w HA H1 hn hc 32)
    rw [show ub 32 = 32 from rfl] at HT
    go_enter Tryd.func41, Tryd.ntmps41
    go_wp2_with (first
      | (go_at_call 43; (with_reducible refine HT.out.mono ?_); rintro e w1 ⟨rfl, rfl⟩)
      | fail)
    go_ret
    exact ⟨rfl, rfl⟩
/-- Where the last blank is, and one. -/
def lastL (xs : List UInt8) : Nat := keepL (fun b => !decide (b = 32)) xs
set_option maxHeartbeats 1000000 in
set_option maxRecDepth 100000 in
theorem lastAlg_W {xs : List UInt8} {ad : Option Addr} {cap n : Nat} (w : World) (HA : Hid (shB.At w ad cap xs)) (H1 : Hid (xs.length = n)) (hn : n ≤ 9223372036854775807) :
    Calls Tryd.prog 47 #[.slice ad n cap, .int .u8 32] w fun e w' => e = .returned (.int .i64 ((lastL xs : Int) - 1)) ∧ w' = w := by
  have w0 : IntKind.i64.wrap ((n : Int) - 1) = (n : Int) - 1 := by rw [IntKind.wrap_i64]; omega
  go_enter Tryd.func47, Tryd.ntmps47
  go_wp2_with fail
  go_loopw [5] (fun v wr => ∃ k : Nat, k ≤ n ∧ v = .int .i64 ((k : Int) - 1) ∧ cutQ (fun b => !decide (b = 32)) (xs.take k) = cutQ (fun b => !decide (b = 32)) xs ∧ wr = w) (fun v _ => (intOf v + 1).toNat)
  case atStart => exact ⟨n, Nat.le_refl _, rfl, by rw [← H1.out, List.take_length], rfl⟩
  case round =>
    obtain ⟨k, hk, rfl, hcut, rfl⟩ := hrel
    cases k with
    | zero =>
      have E0 : Hid (lastL xs = 0) := Lib.hid (by unfold lastL keepL; rw [← hcut]; rfl)
      clear hcut
      go_wp2_with fail
      go_ret
      refine ⟨?_, rfl⟩
      rw [E0.out]
      rfl
    | succ k =>
      obtain ⟨x, hx⟩ : ∃ x, xs[k]? = some x := ⟨xs[k]'(by rw [H1.out]; omega), List.getElem?_eq_getElem _⟩
      obtain ⟨b, off, rfl, hb, hcell⟩ := at_byte HA.out hx
      have ek : ((k + 1 : Nat) : Int) - 1 = (k : Int) := by omega
      rw [ek]
      have w1 : IntKind.i64.wrap ((k : Int) - 1) = (k : Int) - 1 := by rw [IntKind.wrap_i64]; omega
      have hge : ((k : Int) ≥ 0) := by omega
      have hs : xs.take (k + 1) = xs.take k ++ [x] := by rw [List.take_add_one, hx]; rfl
      rw [hs, cut_snoc] at hcut
      clear hx hs
      by_cases hxc : x = 32
      · have he : (ub x == 32) = true := by rw [hxc]; rfl
        rw [if_neg (by simp [hxc])] at hcut
        have E0 : Hid (lastL xs = k + 1) := Lib.hid (by
          unfold lastL keepL
          rw [← hcut, List.length_append, List.length_take, H1.out]
          simp
          omega)
        clear hcut
        go_wp2_with fail
        go_ret
        refine ⟨?_, rfl⟩
        rw [E0.out, ek]
        rfl
      · have he : (ub x == 32) = false := by
          have := ub_eq x 32
          rw [decide_eq_false hxc] at this
          exact this
        rw [if_pos (by simp [hxc])] at hcut
        have HC := Lib.hid hcut
        clear hcut
        go_wp2_with fail
        go_roundw
        case rel => exact ⟨k, by omega, rfl, HC.out, by trivial⟩
        case measure => simp [intOf]
theorem last_W {xs : List UInt8} {ad : Option Addr} {cap n : Nat} (w : World) (HA : Hid (shB.At w ad cap xs)) (H1 : Hid (xs.length = n)) (hn : n ≤ 9223372036854775807) :
    Calls Tryd.prog 42 #[.slice ad n cap, .int .u8 32] w fun e w' => e = .returned (.int .i64 ((lastL xs : Int) - 1)) ∧ w' = w := by
  have HT := Lib.hid (lastAlg_W (ad := ad) (cap := cap) w HA H1 hn)
  go_enter Tryd.func42, Tryd.ntmps42
  go_wp2_with (first
    | (go_at_call 47; (with_reducible refine HT.out.mono ?_); rintro e w1 ⟨rfl, rfl⟩)
    | fail)
  go_ret
  exact ⟨rfl, rfl⟩
/-- How long the line is without its last word. -/
def wordL (xs : List UInt8) : Nat := (wordQ xs).length
theorem word_take (xs : List UInt8) : wordQ xs = xs.take (wordL xs) := by
  have e : wordQ xs = xs.take (keepL (fun b => !decide (b = 32)) (xs.take (keepL (fun b => decide (b = 32)) xs))) := by
    unfold wordQ
    rw [cut_take, cut_take (fun b => decide (b = 32)) xs, List.take_take, Nat.min_eq_left]
    have := keep_le (fun b => !decide (b = 32)) (xs.take (keepL (fun b => decide (b = 32)) xs))
    rw [List.length_take] at this
    omega
  unfold wordL
  rw [e, List.length_take]
  have h1 := keep_le (fun b => !decide (b = 32)) (xs.take (keepL (fun b => decide (b = 32)) xs))
  rw [List.length_take] at h1
  rw [Nat.min_eq_left (by omega)]
theorem word_le (xs : List UInt8) : wordL xs ≤ xs.length := by
  unfold wordL wordQ
  have h3 := cut_leQ (fun b => decide (b = 32)) xs
  have h4 := cut_leQ (fun b => !decide (b = 32)) (cutQ (fun b => decide (b = 32)) xs)
  omega
theorem wordL_eq (xs : List UInt8) : wordL xs = lastL (xs.take (keepL (fun b => decide (b = 32)) xs)) := by
  rw [← cut_take]
  rfl
set_option maxHeartbeats 1000000 in
set_option maxRecDepth 100000 in
theorem without_W {xs : List UInt8} {ad : Option Addr} {cap n : Nat} (w : World) (HA : Hid (shB.At w ad cap xs)) (H1 : Hid (xs.length = n)) (hn : n ≤ 64) (hc : n ≤ cap) :
    Calls Tryd.prog 35 #[.slice ad n cap] w fun e w' => e = .returned (.slice ad (wordL xs) cap) ∧ w' = w := by
  have HT := Lib.hid (trim_W (ad := ad) (cap := cap) w HA H1 (by omega) hc)
  have hk := keep_le (fun b => decide (b = 32)) xs
  rw [H1.out] at hk
  have HA2 : Hid (shB.At w ad cap (xs.take (keepL (fun b => decide (b = 32)) xs))) := Lib.hid (HA.out.take _)
  have HE := Lib.hid (wordL_eq xs)
  obtain ⟨k, hkk⟩ : ∃ k, keepL (fun b => decide (b = 32)) xs = k := ⟨_, rfl⟩
  rw [hkk] at hk HT HA2 HE
  have hj := keep_le (fun b => !decide (b = 32)) (xs.take k)
  have HL2 : Hid ((xs.take k).length = k) := Lib.hid (by rw [List.length_take, H1.out]; omega)
  rw [HL2.out] at hj
  have HS := Lib.hid (last_W (ad := ad) (cap := cap) w HA2 HL2 (by omega))
  rw [show keepL (fun b => !decide (b = 32)) (xs.take k) = wordL xs by rw [HE.out]; rfl] at hj
  rw [← HE.out] at HS
  obtain ⟨j, hjj⟩ : ∃ j, wordL xs = j := ⟨_, rfl⟩
  rw [hjj] at hj HS ⊢
  have w1 : IntKind.i64.wrap ((j : Int) - 1 + 1) = (j : Int) := by rw [IntKind.wrap_i64]; omega
  have h0 : ¬ ((j : Int) < 0) := by omega
  have h2 : j ≤ cap := by omega
  clear HE hjj hkk
  go_enter Tryd.func35, Tryd.ntmps35
  go_wp2_with (first
    | (go_at_call 41; (with_reducible refine HT.out.mono ?_); rintro e w1 ⟨rfl, rfl⟩)
    | (go_at_call 42; (with_reducible refine HS.out.mono ?_); rintro e w2 ⟨rfl, rfl⟩)
    | fail)
  go_ret
  exact ⟨rfl, rfl⟩
end Go.Proofs.YtomgifdnnfbpnaaDoor
