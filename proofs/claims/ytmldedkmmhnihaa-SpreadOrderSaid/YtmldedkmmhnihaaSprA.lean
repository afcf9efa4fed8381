/- Package spread: rows of numbers in memory, and the walks of Wrong, slices.Min, Max, Index, Contains. -/
import Derived.Test.YtmldedkmmhnihaaProg
import Derived.Test.YtmldedkmmhnihaaSprP
import Derived.WalkKit
import Derived.Below
import Derived.Lib.Hide
import Derived.Laws.Rows
import Derived.Laws.OwnMore
import Derived.WalkSmall
import Derived.Outline
namespace Go.Proofs.Ytmldedkmmhnihaa
open Go.RowKit

/-- A slice of numbers. -/
def IntAt (w : World) (ad : Option Addr) (cap n : Nat) (f : Nat → Int) : Prop :=
  (ad = none → cap = 0 ∧ n = 0) ∧ (0 < n → ∃ b off, ad = some ⟨b, off, none⟩ ∧ b < w.heap.size ∧ ∀ i, i < n → w.cell? ⟨b, off + i, none⟩ = some (.int .i64 (f i)))
theorem IntAt.step {w w' : World} {ad : Option Addr} {cap n : Nat} {f : Nat → Int} (h : IntAt w ad cap n f) (hb : Below w.heap.size w w') : IntAt w' ad cap n f :=
  ⟨h.1, fun h0 => by
    obtain ⟨b, off, e, hlt, hl⟩ := h.2 h0
    exact ⟨b, off, e, Nat.lt_of_lt_of_le hlt hb.size, fun i hi => (hb.cell (p := ⟨b, off + i, none⟩) hlt).trans (hl i hi)⟩⟩
theorem IntAt.congr {w : World} {ad : Option Addr} {cap n : Nat} {f g : Nat → Int} (h : IntAt w ad cap n f) (e : ∀ i, i < n → g i = f i) : IntAt w ad cap n g :=
  ⟨h.1, fun h0 => by
    obtain ⟨b, off, ea, hlt, hl⟩ := h.2 h0
    exact ⟨b, off, ea, hlt, fun i hi => by rw [e i hi]; exact hl i hi⟩⟩
/-- A row of numbers in a block of one's own. -/
def RowI (w : World) (B n : Nat) (f : Nat → Nat) : Prop := ∃ cur, w.heap[B]? = some (.cells cur 3 (0, 0)) ∧ ∀ i, i < n → cur[i]? = some (.int .i64 (f i : Int))
section
variable {w w' : World} {B n : Nat} {f g : Nat → Nat}
theorem RowI.lt (r : RowI w B n f) : B < w.heap.size := by
  obtain ⟨cur, hc, _⟩ := r
  exact (Array.getElem?_eq_some_iff.1 hc).1
theorem RowI.same (r : RowI w B n f) (h : w'.heap[B]? = w.heap[B]?) : RowI w' B n f := by
  obtain ⟨cur, hc, hi⟩ := r
  exact ⟨cur, by rw [h]; exact hc, hi⟩
theorem RowI.step (r : RowI w B n f) (hb : Below w.heap.size w w') : RowI w' B n f := r.same (hb.block B r.lt)
theorem RowI.congr (r : RowI w B n f) (h : ∀ i, i < n → g i = f i) : RowI w B n g := by
  obtain ⟨cur, hc, hi⟩ := r
  exact ⟨cur, hc, fun i hi' => by rw [h i hi']; exact hi i hi'⟩
theorem RowI.cell (r : RowI w B n f) {i : Nat} (h : i < n) : w.cell? ⟨B, i, none⟩ = some (.int .i64 (f i : Int)) := by
  obtain ⟨cur, hc, hi⟩ := r
  rw [cell_of_row w B i _ _ _ hc]
  exact hi i h
theorem RowI.frozen (r : RowI w B n f) (i : Nat) : w.frozen? ⟨B, i, none⟩ = false := by
  obtain ⟨cur, hc, _⟩ := r
  exact frozen_of_row w B i cur _ hc
theorem RowI.put (r : RowI w B n f) {i : Nat} (h : i < n) (v : Nat) : RowI (w.setCell ⟨B, i, none⟩ (.int .i64 (v : Int))) B n (upd f i v) := by
  obtain ⟨cur, hc, hi⟩ := r
  have h8 : i < cur.size := (Array.getElem?_eq_some_iff.1 (hi i h)).1
  refine ⟨_, heap_setCell_same w B i cur _ _ hc, fun x hx => ?_⟩
  by_cases e : x = i
  · subst e
    rw [upd_same]
    simp [Array.getElem?_setIfInBounds]
    omega
  · rw [Array.getElem?_setIfInBounds_ne (fun q => e q.symm), upd_other e]
    exact hi x hx
theorem RowI.at (r : RowI w B n f) (cap : Nat) : IntAt w (some ⟨B, 0, none⟩) cap n (fun i => (f i : Int)) :=
  ⟨(fun h => by cases h), fun _ => ⟨B, 0, rfl, r.lt, fun i hi => by rw [Nat.zero_add]; exact r.cell hi⟩⟩
end
theorem RowI.made {w : World} {base B n cap : Nat} (h : w.ownsRow base 3 1 (.slice (some ⟨B, 0, none⟩) n cap) n (madeCells (Value.int .i64 0).cells (n * 1)).toList) : RowI w B n (fun _ => 0) := by
  obtain ⟨h1, h2⟩ := h
  rcases h2 with ⟨h2, _⟩ | ⟨g, cp, cur, e, _, hc, _, _, hsz, ht⟩
  · cases h2
  · simp only [Value.slice.injEq, Option.some.injEq, Addr.mk.injEq, and_true, true_and] at e
    obtain ⟨rfl, rfl⟩ := e
    refine ⟨cur, hc, fun i hi => ?_⟩
    have hk : (madeCells (Value.int .i64 0).cells (n * 1)).toList[i]? = some (Value.int .i64 0) := by
      unfold madeCells
      rw [Array.getElem?_toList, Array.getElem?_map, Array.getElem?_range, if_pos (by omega)]
      show some ((#[Value.int .i64 0] : Array Value)[i % 1]!) = _
      rw [Nat.mod_one]
      rfl
    rw [← ht, List.getElem?_take_of_lt (by omega), Array.getElem?_toList] at hk
    exact hk
theorem info_int : (Try.prog.info? 3).map (fun i => (i.zero, i.size, i.bytes)) = some (some (.int .i64 0), 1, 8) := by kernel_rfl
set_option maxHeartbeats 400000 in
theorem wrong_R {ad : Option Addr} {cap n : Nat} {f : Nat → Int} (C : Int) (w : World) (HA : Hid (IntAt w ad cap n f)) (hn : n ≤ 9223372036854775807) (q : Int) (hq : Hid (wrongV f n C = q)) :
    Calls Try.prog 35 #[.slice ad n cap, .int .i64 C] w fun e w' => e = .returned (.int .i64 q) ∧ w = w' := by
  have hq2 := hq.out
  unfold wrongV at hq2
  by_cases h1 : C < 1
  · rw [if_pos (Or.inl h1)] at hq2
    subst hq2
    clear hq
    go_enter Try.func35, Try.ntmps35
    go_wp2
    go_ret
    exact ⟨rfl, rfl⟩
  by_cases h2 : 8 < C
  · rw [if_pos (Or.inr (Or.inl h2))] at hq2
    subst hq2
    clear hq
    go_enter Try.func35, Try.ntmps35
    go_wp2
    go_ret
    exact ⟨rfl, rfl⟩
  by_cases h3 : 400 < n
  · rw [if_pos (Or.inr (Or.inr (Or.inl h3)))] at hq2
    subst hq2
    clear hq
    go_enter Try.func35, Try.ntmps35
    go_wp2
    go_ret
    exact ⟨rfl, rfl⟩
  have hq3 : (if badW f n = true then (2 : Int) else 0) = q := by
    rw [← hq2]
    by_cases hb : badW f n = true
    · rw [if_pos hb, if_pos (Or.inr (Or.inr (Or.inr hb)))]
    · rw [if_neg hb, if_neg (by rintro (g | g | g | g) <;> contradiction)]
  have HQ := Lib.hid hq3
  clear hq hq2 hq3
  go_enter Try.func35, Try.ntmps35
  go_wp2
  go_loop [20] (fun i => ∃ k : Nat, k ≤ n ∧ i = .int .i64 k ∧ badW f k = false) (fun i => n - (intOf i).toNat)
  case atStart => exact ⟨0, Nat.zero_le _, rfl, rfl⟩
  case round =>
    obtain ⟨k, hk, rfl, hb⟩ := hrel
    have HB := Lib.hid hb
    clear hb
    by_cases hlt : k < n
    · obtain ⟨b, off, rfl, _, hc⟩ := HA.out.2 (by omega)
      have c0 := hc k hlt
      have hst : badW f (k + 1) = (decide (f k < 0) || decide (1073741824 < f k)) := by rw [badW, HB.out, Bool.false_or]
      obtain ⟨x, hx⟩ : ∃ x, f k = x := ⟨_, rfl⟩
      rw [hx] at c0 hst
      have HST := Lib.hid hst
      have hbad : badW f (k + 1) = true → badW f n = true := fun h => by
        cases e : badW f n
        · have := (badW_iff f n).1 e
          rw [(badW_iff f (k + 1)).2 fun i hi => this i (by omega)] at h
          cases h
        · rfl
      have HBD := Lib.hid hbad
      clear hc hx hst hbad
      by_cases g1 : x < 0
      · have : q = 2 := by rw [← HQ.out, if_pos (HBD.out (by rw [HST.out]; simp [g1]))]
        subst this
        go_wp2
        go_ret
        exact ⟨rfl, rfl⟩
      · by_cases g2 : 1073741824 < x
        · have : q = 2 := by rw [← HQ.out, if_pos (HBD.out (by rw [HST.out]; simp [g2]))]
          subst this
          go_wp2
          go_ret
          exact ⟨rfl, rfl⟩
        · go_wp2
          go_round
          case rel => exact ⟨k + 1, by omega, by go_num, by rw [HST.out]; simp [g1, g2]⟩
          case measure => simp [intOf]; omega
    · obtain rfl : k = n := by omega
      have : q = 0 := by rw [← HQ.out, HB.out]; rfl
      subst this
      clear hlt hk
      go_wp2
      go_ret
      exact ⟨rfl, rfl⟩
set_option maxHeartbeats 400000 in
theorem min_R {b off cap m : Nat} {L : Nat → Nat} (w : World) (hc : Hid (∀ i, i < m → w.cell? ⟨b, off + i, none⟩ = some (.int .i64 (L i : Int)))) (h0 : 0 < m) (hm : m ≤ 1000) (x : Nat) (hx : Hid (L (amin L m) = x)) :
    Calls Try.prog 45 #[.slice (some ⟨b, off, none⟩) m cap] w fun e w' => e = .returned (.int .i64 x) ∧ w = w' := by
  have c0 := hc.out 0 h0
  rw [Nat.add_zero] at c0
  have hd : decide ((m : Int) < 1) = false := decide_eq_false (by omega)
  have hd2 : decide (m < 1) = false := decide_eq_false (by omega)
  go_enter Try.func45, Try.ntmps45
  go_wp2
  go_loop [3, 4] (fun v i => ∃ k : Nat, 1 ≤ k ∧ k ≤ m ∧ i = .int .i64 k ∧ v = .int .i64 (minF L (k - 1) : Nat)) (fun _ i => m - (intOf i).toNat)
  case atStart => exact ⟨1, Nat.le_refl _, h0, rfl, rfl⟩
  case round =>
    obtain ⟨k, h1, hk, rfl, rfl⟩ := hrel
    clear c0
    by_cases hlt : k < m
    · have ck := hc.out k hlt
      obtain ⟨k1, rfl⟩ : ∃ k1, k = k1 + 1 := ⟨k - 1, by omega⟩
      rw [Nat.add_sub_cancel]
      have hst : minF L ((k1 + 1)) = min (minF L (k1)) (L (k1 + 1)) := rfl
      obtain ⟨y, hy⟩ : ∃ y, minF L (k1) = y := ⟨_, rfl⟩
      obtain ⟨z, hz⟩ : ∃ z, L (k1 + 1) = z := ⟨_, rfl⟩
      rw [hy, hz] at hst
      rw [hz] at ck
      rw [hy]
      have HST := Lib.hid hst
      clear hy hz hst
      go_wp2
      all_goals
        go_round
        case rel => exact ⟨k1 + 1 + 1, by omega, by omega, by go_num, by rw [Nat.add_sub_cancel, HST.out]; first | rfl | (simp; omega) | (congr 1; omega)⟩
        case measure => simp [intOf]; omega
    · obtain rfl : k = m := by omega
      clear hlt hk
      go_wp2
      go_ret
      exact ⟨by rw [← hx.out]; obtain ⟨k1, rfl⟩ : ∃ k1, k = k1 + 1 := ⟨k - 1, by omega⟩; rw [← minF_amin L k1]; rfl, rfl⟩
def mx (f : Nat → Nat) : Nat → Nat
  | 0 => f 0
  | k + 1 => max (mx f k) (f (k + 1))
theorem maxF_mx (f : Nat → Nat) : ∀ k, maxF f (k + 1) = mx f k
  | 0 => by simp [maxF, mx]
  | k + 1 => by
    rw [mx, ← maxF_mx f k]
    rfl
set_option maxHeartbeats 400000 in
theorem max_R {b off cap m : Nat} {L : Nat → Nat} (w : World) (hc : Hid (∀ i, i < m → w.cell? ⟨b, off + i, none⟩ = some (.int .i64 (L i : Int)))) (h0 : 0 < m) (hm : m ≤ 1000) (x : Nat) (hx : Hid (maxF L m = x)) :
    Calls Try.prog 46 #[.slice (some ⟨b, off, none⟩) m cap] w fun e w' => e = .returned (.int .i64 x) ∧ w = w' := by
  have c0 := hc.out 0 h0
  rw [Nat.add_zero] at c0
  have hd : decide ((m : Int) < 1) = false := decide_eq_false (by omega)
  have hd2 : decide (m < 1) = false := decide_eq_false (by omega)
  go_enter Try.func46, Try.ntmps46
  go_wp2
  go_loop [3, 4] (fun v i => ∃ k : Nat, 1 ≤ k ∧ k ≤ m ∧ i = .int .i64 k ∧ v = .int .i64 (mx L (k - 1) : Nat)) (fun _ i => m - (intOf i).toNat)
  case atStart => exact ⟨1, Nat.le_refl _, h0, rfl, rfl⟩
  case round =>
    obtain ⟨k, h1, hk, rfl, rfl⟩ := hrel
    clear c0
    by_cases hlt : k < m
    · have ck := hc.out k hlt
      obtain ⟨k1, rfl⟩ : ∃ k1, k = k1 + 1 := ⟨k - 1, by omega⟩
      rw [Nat.add_sub_cancel]
      have hst : mx L ((k1 + 1)) = max (mx L (k1)) (L (k1 + 1)) := rfl
      obtain ⟨y, hy⟩ : ∃ y, mx L (k1) = y := ⟨_, rfl⟩
      obtain ⟨z, hz⟩ : ∃ z, L (k1 + 1) = z := ⟨_, rfl⟩
      rw [hy, hz] at hst
      rw [hz] at ck
      rw [hy]
      have HST := Lib.hid hst
      clear hy hz hst
      go_wp2
      all_goals
        go_round
        case rel => exact ⟨k1 + 1 + 1, by omega, by omega, by go_num, by rw [Nat.add_sub_cancel, HST.out]; first | rfl | (simp; omega) | (congr 1; omega)⟩
        case measure => simp [intOf]; omega
    · obtain rfl : k = m := by omega
      clear hlt hk
      go_wp2
      go_ret
      exact ⟨by rw [← hx.out]; obtain ⟨k1, rfl⟩ : ∃ k1, k = k1 + 1 := ⟨k - 1, by omega⟩; rw [maxF_mx L k1]; rfl, rfl⟩
/-- Where a number stands first. -/
def FirstI (f : Nat → Int) (n : Nat) (v r : Int) : Prop := (r = -1 ∧ ∀ i, i < n → ¬ f i = v) ∨ ∃ i : Nat, i < n ∧ r = i ∧ f i = v ∧ ∀ j, j < i → ¬ f j = v
def FoundI (f : Nat → Int) (n : Nat) (v : Int) (w : World) (e : Ending) (w' : World) : Prop := ∃ r : Int, FirstI f n v r ∧ e = .returned (.int .i64 r) ∧ w = w'
set_option maxHeartbeats 400000 in
theorem index_F {ad : Option Addr} {cap n : Nat} {f : Nat → Int} (v : Int) (w : World) (HA : Hid (IntAt w ad cap n f)) (hn : n ≤ 9223372036854775807) :
    Calls Try.prog 44 #[.slice ad n cap, .int .i64 v] w (FoundI f n v w) := by
  go_enter Try.func44, Try.ntmps44
  go_wp2
  go_loop [8] (fun i => ∃ k : Nat, k ≤ n ∧ i = .int .i64 k ∧ ∀ j, j < k → ¬ f j = v) (fun i => n - (intOf i).toNat)
  case atStart => exact ⟨0, Nat.zero_le _, rfl, fun j hj => by omega⟩
  case round =>
    obtain ⟨k, hk, rfl, hno⟩ := hrel
    have HN := Lib.hid hno
    clear hno
    by_cases hlt : k < n
    · obtain ⟨b, off, rfl, _, hc⟩ := HA.out.2 (by omega)
      have ck := hc k hlt
      obtain ⟨x, hx⟩ : ∃ x, f k = x := ⟨_, rfl⟩
      rw [hx] at ck
      have HX := Lib.hid hx
      clear hc hx
      by_cases hv : v = x
      · subst hv
        go_wp2
        go_ret
        exact ⟨k, Or.inr ⟨k, hlt, rfl, HX.out, HN.out⟩, rfl, rfl⟩
      · go_wp2
        go_round
        case rel => exact ⟨k + 1, by omega, by go_num, fun j hj => by
          by_cases e : j = k
          · rw [e, HX.out]; exact fun h => hv h.symm
          · exact HN.out j (by omega)⟩
        case measure => simp [intOf]; omega
    · obtain rfl : k = n := by omega
      clear hlt hk
      go_wp2
      go_ret
      exact ⟨-1, Or.inl ⟨rfl, HN.out⟩, rfl, rfl⟩
theorem FirstI.eq {f : Nat → Int} {n i : Nat} {v r : Int} (h : FirstI f n v r) (hi : i < n) (hv : f i = v) (hf : ∀ j, j < i → ¬ f j = v) : r = i := by
  rcases h with ⟨_, h⟩ | ⟨k, hk, rfl, h1, h2⟩
  · exact absurd hv (h i hi)
  · have : k = i := by
      by_cases g : k < i
      · exact absurd h1 (hf k g)
      · by_cases g2 : i < k
        · exact absurd hv (h2 i g2)
        · omega
    rw [this]
theorem index_at {ad : Option Addr} {cap n i : Nat} {f : Nat → Int} (v : Int) (w : World) (HA : Hid (IntAt w ad cap n f)) (hn : n ≤ 9223372036854775807) (hi : i < n) (hv : Hid (f i = v)) (hf : Hid (∀ j, j < i → ¬ f j = v)) :
    Calls Try.prog 44 #[.slice ad n cap, .int .i64 v] w fun e w' => e = .returned (.int .i64 i) ∧ w = w' :=
  (index_F v w HA hn).mono fun _ _ ⟨_, h1, he, hw⟩ => ⟨by rw [he, h1.eq hi hv.out hf.out], hw⟩
def hasF (f : Nat → Int) (v : Int) : Nat → Bool
  | 0 => false
  | k + 1 => hasF f v k || decide (f k = v)
theorem hasF_iff (f : Nat → Int) (v : Int) : ∀ k, hasF f v k = true ↔ ∃ i, i < k ∧ f i = v
  | 0 => by simp [hasF]
  | k + 1 => by
    simp only [hasF, Bool.or_eq_true, hasF_iff f v k, decide_eq_true_iff]
    constructor
    · rintro (⟨i, hi, h⟩ | h)
      · exact ⟨i, by omega, h⟩
      · exact ⟨k, by omega, h⟩
    · rintro ⟨i, hi, h⟩
      by_cases e : i = k
      · exact Or.inr (e ▸ h)
      · exact Or.inl ⟨i, by omega, h⟩
set_option maxHeartbeats 400000 in
theorem contains_R {ad : Option Addr} {cap n : Nat} {f : Nat → Int} (v : Int) (w : World) (HA : Hid (IntAt w ad cap n f)) (hn : n ≤ 9223372036854775807) (q : Bool) (hq : Hid (hasF f v n = q)) :
    Calls Try.prog 51 #[.slice ad n cap, .int .i64 v] w fun e w' => e = .returned (.bool q) ∧ w = w' := by
  cases q with
  | true =>
    have hr : ∀ r, FirstI f n v r → 0 ≤ r := fun r h => by
      rcases h with ⟨_, h⟩ | ⟨k, hk, rfl, h1, h2⟩
      · obtain ⟨i, hi, e⟩ := (hasF_iff f v n).1 hq.out
        exact absurd e (h i hi)
      · omega
    have HR := Lib.hid hr
    clear hr
    go_enter Try.func51, Try.ntmps51
    go_wp2_with (first
      | (go_at_call 44; (with_reducible refine (index_F v _ HA hn).mono ?_); rintro e w1 ⟨r, h1, rfl, rfl⟩; have hr0 := HR.out r h1; have hr1 : decide (0 ≤ r) = true := (decide_eq_true hr0))
      | fail)
    go_ret
    exact ⟨rfl, rfl⟩
  | false =>
    have hr : ∀ r, FirstI f n v r → r = -1 := fun r h => by
      rcases h with ⟨h, _⟩ | ⟨k, hk, rfl, h1, h2⟩
      · exact h
      · have := (hasF_iff f v n).2 ⟨k, hk, h1⟩
        rw [hq.out] at this
        cases this
    have HR := Lib.hid hr
    clear hr
    go_enter Try.func51, Try.ntmps51
    go_wp2_with (first
      | (go_at_call 44; (with_reducible refine (index_F v _ HA hn).mono ?_); rintro e w1 ⟨r, h1, rfl, rfl⟩; obtain rfl := HR.out r h1)
      | fail)
    go_ret
    exact ⟨rfl, rfl⟩
end Go.Proofs.Ytmldedkmmhnihaa
