/- Package rank: the walks of successors and smallestInCircle. -/
import Derived.Test.YtcnnimhdnmmaoaaRnkA
import Derived.Deep.LoopGhost
import Derived.RegionTactic
namespace Go.Proofs.Ytcnnimhdnmmaoaa
open Go.RowKit

/-- The successor as a number. -/
def nxI (T K : Nat) (s : RkT) (t : Nat) : Int :=
  match sucK T K s t with
  | none => -1
  | some u => u
theorem nxI_none {T K : Nat} {s : RkT} {t : Nat} (h : sucK T K s t = none) : nxI T K s t = -1 := by unfold nxI; rw [h]
theorem nxI_some {T K : Nat} {s : RkT} {t u : Nat} (h : sucK T K s t = some u) : nxI T K s t = u := by unfold nxI; rw [h]
theorem nxI_ways (T K : Nat) (s : RkT) (t : Nat) : (sucK T K s t = none ∧ nxI T K s t = -1) ∨ ∃ u, u < T ∧ sucK T K s t = some u ∧ nxI T K s t = u := by
  cases h : sucK T K s t with
  | none => exact Or.inl ⟨rfl, nxI_none h⟩
  | some u => exact Or.inr ⟨u, suc_ltT h, rfl, nxI_some h⟩
theorem suc_no {T K : Nat} {s : RkT} {t : Nat} (h : ¬ (0 ≤ s.wait t ∧ s.wait t < K)) : nxI T K s t = -1 := by
  refine nxI_none ?_
  unfold sucK
  rw [if_pos (by omega)]
theorem suc_no2 {T K : Nat} {s : RkT} {t l : Nat} (h : s.wait t = l) (h2 : ¬ (0 ≤ s.hold l ∧ s.hold l < T)) : nxI T K s t = -1 := by
  refine nxI_none ?_
  unfold sucK
  rw [h, Int.toNat_natCast, if_pos (by omega)]
theorem suc_yes {T K : Nat} {s : RkT} {t l u : Nat} (h : s.wait t = l) (hl : l < K) (h2 : s.hold l = u) (hu : u < T) : nxI T K s t = u := nxI_some (suc_of h hl h2 hu)
/-- What has been filled in. -/
def nxTo (T K : Nat) (s : RkT) (k i : Nat) : Int := if i < k then nxI T K s i else 0
theorem nxTo_put {T K : Nat} {s : RkT} {k : Nat} {v : Int} (hv : nxI T K s k = v) (i : Nat) : nxTo T K s (k + 1) i = upF (nxTo T K s k) k v i := by
  unfold nxTo upF
  simp only []
  by_cases e : i = k
  · subst e
    rw [if_pos (by omega), if_pos rfl, hv]
  · rw [if_neg e]
    by_cases g : i < k
    · rw [if_pos g, if_pos (by omega)]
    · rw [if_neg g, if_neg (by omega)]
theorem nxTo_put2 {T K : Nat} {s : RkT} {k : Nat} {v : Int} (hv : nxI T K s k = v) (i : Nat) : nxTo T K s (k + 1) i = upF (upF (nxTo T K s k) k (-1)) k v i := by
  rw [nxTo_put hv]
  unfold upF
  split <;> rfl
set_option maxHeartbeats 2000000 in
set_option maxRecDepth 100000 in
theorem successors_N {ha wa : Option Addr} {hc wc K n : Nat} {s : RkT} (w : World) (H1 : Hid (IntAt w ha hc K s.hold)) (H2 : Hid (IntAt w wa wc n s.wait)) (hn : n ≤ 17592186044416) :
    Calls Try.prog 23 #[.slice ha K hc, .slice wa n wc] w fun e w' => ∃ X, e = .returned (.slice (some ⟨X, 0, none⟩) n n) ∧ w.heap.size ≤ X ∧ RowZ w' X n (nxI n K s) ∧ Below w.heap.size w w' := by
  obtain ⟨i0, hi, hz0, hz1, hz2⟩ := info_parts' info_int
  have hb0 : i0.bytes * n ≤ 281474976710656 := by rw [hz2]; omega
  have hmx : n ≤ maxLen := by unfold maxLen; omega
  go_enter Try.func23, Try.ntmps23
  go_wp2_with (first
    | (at_make; refine wpList_make_full _ rfl _ _ 24 rfl w.heap.size 3 i0 _ 1 Try.underlying24 hi hz0 hz1 .i64 .i64 _ _ n rfl rfl rfl rfl hb0 hmx (Nat.le_refl _) ?_)
    | fail)
  intro w1 hown hgrow
  have R0 : RowZ w1 w.heap.size n (nxTo n K s 0) := (RowZ.made hown).congr fun i hi => by simp [nxTo]
  have R1 := Lib.hid R0
  have B1 := Lib.hid ((Below.refl w.heap.size w).grown hgrow (Nat.le_refl _) (fun k hk => by cases hk))
  clear hown hgrow R0
  go_wp2_with fail
  go_loopw [13] (fun i wr => ∃ k : Nat, k ≤ n ∧ i = .int .i64 k ∧ Hid (RowZ wr w.heap.size n (nxTo n K s k)) ∧ Hid (Below w.heap.size w wr)) (fun i _ => n - (intOf i).toNat)
  case atStart => exact ⟨0, Nat.zero_le _, rfl, R1, B1⟩
  case round =>
    clear R1 B1
    obtain ⟨k, hk, rfl, HR, HB⟩ := hrel
    by_cases hlt : k < n
    · obtain ⟨wb, wo, rfl, hwb, d0⟩ := H2.out.get hlt
      have d1 := (HB.out.cell (p := ⟨wb, wo + k, none⟩) hwb).trans d0
      have hwr : wb < wr.heap.size := Nat.lt_of_lt_of_le hwb HB.out.size
      have hne : ¬ wb = w.heap.size := by omega
      have hne2 : ¬ w.heap.size = wb := by omega
      have x0 := HR.out.cell hlt
      have x1 := HR.out.frozen k
      have hXr := HR.out.lt
      have C1 := Lib.hid (HR.out.put hlt (-1))
      have D1 := Lib.hid (HB.out.setCell (p := ⟨w.heap.size, k, none⟩) (Nat.le_refl _) (.int .i64 (-1)))
      obtain ⟨lk, hlk⟩ : ∃ v, s.wait k = v := ⟨_, rfl⟩
      rw [hlk] at d1
      clear d0
      by_cases g1 : 0 ≤ lk ∧ lk < K
      · have W1 : Hid (true = decide (0 ≤ lk ∧ lk < (K : Int))) := Lib.hid (decide_eq_true g1).symm
        obtain ⟨l, rfl⟩ : ∃ l : Nat, lk = l := ⟨lk.toNat, by omega⟩
        have hl : l < K := by omega
        obtain ⟨hb, ho, rfl, hhb, e0⟩ := H1.out.get hl
        have e1 := (HB.out.cell (p := ⟨hb, ho + l, none⟩) hhb).trans e0
        have hhr : hb < wr.heap.size := Nat.lt_of_lt_of_le hhb HB.out.size
        have hne3 : ¬ hb = w.heap.size := by omega
        have hne4 : ¬ w.heap.size = hb := by omega
        obtain ⟨hv, hhv⟩ : ∃ v, s.hold l = v := ⟨_, rfl⟩
        rw [hhv] at e1
        clear e0 g1
        by_cases g2 : 0 ≤ hv ∧ hv < n
        · have W2 : Hid (true = decide (0 ≤ hv ∧ hv < (n : Int))) := Lib.hid (decide_eq_true g2).symm
          obtain ⟨u, rfl⟩ : ∃ u : Nat, hv = u := ⟨hv.toNat, by omega⟩
          have hu : u < n := by omega
          have C2 := Lib.hid ((C1.out.put hlt (u : Int)).congr (fun i _ => nxTo_put2 (suc_yes hlk hl hhv hu) i))
          have D2 := Lib.hid (D1.out.setCell (p := ⟨w.heap.size, k, none⟩) (Nat.le_refl _) (.int .i64 (u : Int)))
          clear g2 hlk hhv C1 D1
          go_wp2_with (first
            | (go_at_call 27; (with_reducible refine (within_N _ _ true W1).mono ?_); rintro e w5 ⟨rfl, rfl⟩)
            | (go_at_call 27; (with_reducible refine (within_N _ _ true W2).mono ?_); rintro e w5 ⟨rfl, rfl⟩)
            | fail)
          go_roundw
          case rel => exact ⟨k + 1, by omega, by go_num, C2, D2⟩
          case measure => simp [intOf]; omega
        · have W2 : Hid (false = decide (0 ≤ hv ∧ hv < (n : Int))) := Lib.hid (decide_eq_false g2).symm
          have C2 := Lib.hid (C1.out.congr (fun i _ => nxTo_put (suc_no2 hlk (by rw [hhv]; exact g2)) i))
          clear g2 hlk hhv C1
          go_wp2_with (first
            | (go_at_call 27; (with_reducible refine (within_N _ _ true W1).mono ?_); rintro e w5 ⟨rfl, rfl⟩)
            | (go_at_call 27; (with_reducible refine (within_N _ _ false W2).mono ?_); rintro e w5 ⟨rfl, rfl⟩)
            | fail)
          go_roundw
          case rel => exact ⟨k + 1, by omega, by go_num, C2, D1⟩
          case measure => simp [intOf]; omega
      · have W1 : Hid (false = decide (0 ≤ lk ∧ lk < (K : Int))) := Lib.hid (decide_eq_false g1).symm
        have C2 := Lib.hid (C1.out.congr (fun i _ => nxTo_put (suc_no (by rw [hlk]; exact g1)) i))
        clear g1 hlk C1
        go_wp2_with (first
          | (go_at_call 27; (with_reducible refine (within_N _ _ false W1).mono ?_); rintro e w5 ⟨rfl, rfl⟩)
          | fail)
        go_roundw
        case rel => exact ⟨k + 1, by omega, by go_num, C2, D1⟩
        case measure => simp [intOf]; omega
    · obtain rfl : k = n := by omega
      have HR2 := Lib.hid (HR.out.congr (g := nxI k K s) (fun i hi => by unfold nxTo; rw [if_pos hi]))
      clear HR
      go_wp2_with fail
      go_ret
      exact ⟨_, rfl, Nat.le_refl _, HR2.out, HB.out⟩
/-- Where the first one above nought stands. -/
def FirstP (f : Nat → Int) (n : Nat) (r : Int) : Prop := (r = -1 ∧ ∀ i, i < n → f i ≤ 0) ∨ ∃ i : Nat, i < n ∧ r = i ∧ 0 < f i ∧ ∀ j, j < i → f j ≤ 0
set_option maxHeartbeats 400000 in
theorem above_N (x : Int) (w : World) (q : Bool) (hq : Hid (q = decide (0 < x))) : Calls Try.prog 31 #[.int .i64 x] w fun e w' => e = .returned (.bool q) ∧ w = w' := by
  by_cases h : 0 < x
  · obtain rfl : q = true := by rw [hq.out, decide_eq_true h]
    go_enter Try.func31, Try.ntmps31
    go_wp2_with fail
    go_ret
    exact ⟨by simp, rfl⟩
  · obtain rfl : q = false := by rw [hq.out, decide_eq_false h]
    go_enter Try.func31, Try.ntmps31
    go_wp2_with fail
    go_ret
    exact ⟨by simp, rfl⟩
set_option maxHeartbeats 1000000 in
theorem indexFunc_N {ad : Option Addr} {cap n : Nat} {f : Nat → Int} (w : World) (HA : Hid (IntAt w ad cap n f)) (hn : n ≤ 9223372036854775807) :
    Calls Try.prog 30 #[.slice ad n cap, .func (.func 31) #[] #[]] w fun e w' => ∃ r : Int, FirstP f n r ∧ e = .returned (.int .i64 r) ∧ w = w' := by
  go_enter Try.func30, Try.ntmps30
  go_wp2_with fail
  go_loop [8] (fun i => ∃ k : Nat, k ≤ n ∧ i = .int .i64 k ∧ ∀ j, j < k → f j ≤ 0) (fun i => n - (intOf i).toNat)
  case atStart => exact ⟨0, Nat.zero_le _, rfl, fun j hj => by omega⟩
  case round =>
    obtain ⟨k, hk, rfl, hno⟩ := hrel
    have HN := Lib.hid hno
    clear hno
    by_cases hlt : k < n
    · obtain ⟨b, off, rfl, _, ck⟩ := HA.out.get hlt
      obtain ⟨x, hx⟩ : ∃ x, f k = x := ⟨_, rfl⟩
      rw [hx] at ck
      have HX := Lib.hid hx
      clear hx
      by_cases hv : 0 < x
      · have HQ : Hid (true = decide (0 < x)) := Lib.hid (decide_eq_true hv).symm
        clear hv
        go_wp2_with (first
          | (go_at_call 31; (with_reducible refine (above_N x _ true HQ).mono ?_); rintro e w1 ⟨rfl, rfl⟩)
          | fail)
        go_ret
        exact ⟨k, Or.inr ⟨k, hlt, rfl, by rw [HX.out]; exact of_decide_eq_true HQ.out.symm, HN.out⟩, rfl, rfl⟩
      · have HQ : Hid (false = decide (0 < x)) := Lib.hid (decide_eq_false hv).symm
        have HV : Hid (x ≤ 0) := Lib.hid (by omega)
        clear hv
        go_wp2_with (first
          | (go_at_call 31; (with_reducible refine (above_N x _ false HQ).mono ?_); rintro e w1 ⟨rfl, rfl⟩)
          | fail)
        go_round
        case rel => exact ⟨k + 1, by omega, by go_num, fun j hj => by
          by_cases e : j = k
          · rw [e, HX.out]; exact HV.out
          · exact HN.out j (by omega)⟩
        case measure => simp [intOf]; omega
    · obtain rfl : k = n := by omega
      clear hlt hk
      go_wp2_with fail
      go_ret
      exact ⟨-1, Or.inl ⟨rfl, HN.out⟩, rfl, rfl⟩
end Go.Proofs.Ytcnnimhdnmmaoaa
