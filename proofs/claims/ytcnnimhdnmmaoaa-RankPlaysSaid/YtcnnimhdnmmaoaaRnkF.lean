/- Package rank: the walk of smallestInCircle. -/
import Derived.Test.YtcnnimhdnmmaoaaRnkE
namespace Go.Proofs.Ytcnnimhdnmmaoaa
open Go.RowKit

/-- The least one in a circle, or -1. -/
def FirstC (n K : Nat) (s : RkT) (r : Int) : Prop := (r = -1 ∧ ∀ t, t < n → ¬ CycK n K s t) ∨ ∃ f : Nat, f < n ∧ r = f ∧ CycK n K s f ∧ ∀ t, t < f → ¬ CycK n K s t
theorem firstC_of {n K : Nat} {s : RkT} {bf : Nat → Int} {r : Int} (hJ : ElimJ n K s bf) (hz : ∀ t, t < n → ¬ bf t = 0) (h : FirstP bf n r) : FirstC n K s r := by
  rcases h with ⟨rfl, h⟩ | ⟨f, hf, rfl, h1, h2⟩
  · exact Or.inl ⟨rfl, fun t ht hc => Int.not_le.2 ((elim_end hJ hz ht).2 hc) (h t ht)⟩
  · exact Or.inr ⟨f, hf, rfl, (elim_end hJ hz hf).1 h1, fun t ht hc => Int.not_le.2 ((elim_end hJ hz (by omega)).2 hc) (h2 t ht)⟩
theorem pre_none {n K : Nat} {s : RkT} {k : Nat} (h : sucK n K s k = none) (t : Nat) : preK n K s t (k + 1) = preK n K s t k := by
  unfold preK
  simp only [cn]
  have hp : ¬ decide (sucK n K s k = some t) = true := by simp [h]
  rw [if_neg hp]
  rfl
theorem pre_some {n K : Nat} {s : RkT} {k u : Nat} (h : sucK n K s k = some u) (t : Nat) : ((preK n K s t (k + 1) : Nat) : Int) = upF (fun t => (preK n K s t k : Nat)) u (((preK n K s u k : Nat) : Int) + 1) t := by
  unfold upF
  simp only []
  by_cases e : t = u
  · subst e
    rw [if_pos rfl]
    unfold preK
    simp only [cn]
    have hp : decide (sucK n K s k = some t) = true := by simp [h]
    rw [if_pos hp]
    omega
  · rw [if_neg e]
    unfold preK
    simp only [cn]
    have hp : ¬ decide (sucK n K s k = some t) = true := by simp [h]; exact fun q => e q.symm
    rw [if_neg hp]
    rfl
theorem elim_range {n K : Nat} {s : RkT} {bf : Nat → Int} (h : ElimJ n K s bf) {t : Nat} (ht : t < n) : -1 ≤ bf t ∧ bf t ≤ n := by
  rcases h t ht with ⟨e, _⟩ | e
  · omega
  · have := cn_le (fun u => decide (sucK n K s u = some t) && !decide (bf u = -1)) n
    omega
/-- How many are left. -/
def leftN (n : Nat) (bf : Nat → Int) : Nat := cn (fun u => !decide (bf u = -1)) n
theorem out_none {n K : Nat} {s : RkT} {bf : Nat → Int} {a : Nat} (h : sucK n K s a = none) (i : Nat) : outK n K s bf a i = upF bf a (-1) i := by
  unfold outK; rw [h]; rfl
theorem out_some {n K : Nat} {s : RkT} {bf : Nat → Int} {a b : Nat} (h : sucK n K s a = some b) (i : Nat) : outK n K s bf a i = upF (upF bf a (-1)) b (bf b - 1) i := by
  unfold outK; rw [h]; rfl
/-- At the chain's next one alone it may be nought. -/
theorem out_zero {n K : Nat} {s : RkT} {bf : Nat → Int} {a i : Nat} (hJ : ElimJ n K s bf) (ha : a < n) (h0 : bf a = 0) (hz : ∀ j, j < i → ¬ j = a → ¬ bf j = 0) (j : Nat) (hj : j < i) (hne : ¬ (j : Int) = nxI n K s a) : ¬ outK n K s bf a j = 0 := by
  by_cases e : j = a
  · subst e
    rw [out_a hJ ha h0]
    decide
  · have : ¬ sucK n K s a = some j := fun h => hne (nxI_some h).symm
    rw [out_other e this]
    exact hz j hj e
set_option maxHeartbeats 4000000 in
set_option maxRecDepth 100000 in
theorem smallest_N {ad : Option Addr} {cap n K : Nat} {s : RkT} (w : World) (HA : Hid (IntAt w ad cap n (nxI n K s))) (hn : n ≤ 17592186044416) :
    Calls Try.prog 24 #[.slice ad n cap] w fun e w' => ∃ r, FirstC n K s r ∧ e = .returned (.int .i64 r) ∧ Below w.heap.size w w' := by
  obtain ⟨i0, hi, hz0, hz1, hz2⟩ := info_parts' info_int
  have hb0 : i0.bytes * n ≤ 281474976710656 := by rw [hz2]; omega
  have hmx : n ≤ maxLen := by unfold maxLen; omega
  go_enter Try.func24, Try.ntmps24
  go_wp2_with (first
    | (at_make; refine wpList_make_full _ rfl _ _ 24 rfl w.heap.size 3 i0 _ 1 Try.underlying24 hi hz0 hz1 .i64 .i64 _ _ n rfl rfl rfl rfl hb0 hmx (Nat.le_refl _) ?_)
    | fail)
  intro w1 hown hgrow
  have R0 : RowZ w1 w.heap.size n (fun t => (preK n K s t 0 : Nat)) := (RowZ.made hown).congr fun i hi => by simp [preK, cn]
  have R1 := Lib.hid R0
  have B1 := Lib.hid ((Below.refl w.heap.size w).grown hgrow (Nat.le_refl _) (fun k hk => by cases hk))
  clear hown hgrow R0
  go_wp2_with fail
  go_loopw [14] (fun i wr => ∃ k : Nat, k ≤ n ∧ i = .int .i64 k ∧ Hid (RowZ wr w.heap.size n (fun t => (preK n K s t k : Nat))) ∧ Hid (Below w.heap.size w wr)) (fun i _ => n - (intOf i).toNat)
  case atStart => exact ⟨0, Nat.zero_le _, rfl, R1, B1⟩
  case round =>
    clear R1 B1
    obtain ⟨k, hk, rfl, HR, HB⟩ := hrel
    by_cases hlt : k < n
    · obtain ⟨nb, no, rfl, hnb, d0⟩ := HA.out.get hlt
      have d1 := (HB.out.cell (p := ⟨nb, no + k, none⟩) hnb).trans d0
      have hnr : nb < wr.heap.size := Nat.lt_of_lt_of_le hnb HB.out.size
      have hne : ¬ nb = w.heap.size := by omega
      have hne2 : ¬ w.heap.size = nb := by omega
      rcases nxI_ways n K s k with ⟨hs, hv⟩ | ⟨u, hu, hs, hv⟩
      · rw [hv] at d1
        have HR2 := Lib.hid (HR.out.congr (g := fun t => (preK n K s t (k + 1) : Nat)) (fun i _ => by rw [pre_none hs]))
        clear d0 hs hv HR
        go_wp2_with fail
        go_roundw
        case rel => exact ⟨k + 1, by omega, by go_num, HR2, HB⟩
        case measure => simp [intOf]; omega
      · rw [hv] at d1
        have x0 := HR.out.cell hu
        have x1 := HR.out.frozen u
        have hXr := HR.out.lt
        have hp := cn_le (fun v => decide (sucK n K s v = some u)) k
        have HR2 := (HR.out.put hu (((preK n K s u k : Nat) : Int) + 1)).congr (g := fun t => (preK n K s t (k + 1) : Nat)) (fun i _ => pre_some hs i)
        have HB2 := Lib.hid (HB.out.setCell (p := ⟨w.heap.size, u, none⟩) (Nat.le_refl _) (.int .i64 (((preK n K s u k : Nat) : Int) + 1)))
        change preK n K s u k ≤ k at hp
        obtain ⟨p, hpp⟩ : ∃ p, preK n K s u k = p := ⟨_, rfl⟩
        simp only [hpp] at x0 HR2 HB2 hp
        have HR3 := Lib.hid HR2
        have hw : IntKind.i64.wrap ((p : Int) + 1) = (p : Int) + 1 := by rw [IntKind.wrap_i64]; omega
        clear d0 hs hv HR HR2 hpp
        go_wp2_with fail
        go_roundw
        case rel => exact ⟨k + 1, by omega, by go_num, HR3, HB2⟩
        case measure => simp [intOf]; omega
    · obtain rfl : k = n := by omega
      have J0 := Lib.hid (elim_start (T := k) (K := K) (s := s) (bf := fun t => (preK k K s t k : Nat)) (fun t _ => rfl))
      clear hlt hk
      go_wp2_with fail
      go_loopw [29] (fun i wr => ∃ (a : Nat) (bf : Nat → Int), a ≤ k ∧ i = .int .i64 a ∧ Hid (RowZ wr w.heap.size k bf) ∧ Hid (ElimJ k K s bf) ∧ Hid (∀ j, j < a → ¬ bf j = 0) ∧ Hid (Below w.heap.size w wr)) (fun i _ => k - (intOf i).toNat)
      case atStart => exact ⟨0, _, Nat.zero_le _, rfl, HR, J0, Lib.hid fun j hj => by omega, HB⟩
      case round =>
        clear HR J0 HB
        obtain ⟨a, bf, ha, rfl, HR, HJ, HZ, HB⟩ := hrel
        by_cases hlt : a < k
        · go_wp2_with fail
          go_loopg [7] (leftN k bf) (fun gk c wr => ∃ (bf : Nat → Int) (t : Int), gk = leftN k bf ∧ c = .int .i64 t ∧ Hid (t = -1 ∨ ∃ u : Nat, u < k ∧ t = u) ∧ Hid (RowZ wr w.heap.size k bf) ∧ Hid (ElimJ k K s bf) ∧ Hid (∀ j, j < a + 1 → ¬ (j : Int) = t → ¬ bf j = 0) ∧ Hid (Below w.heap.size w wr))
          case atStart => exact ⟨bf, _, rfl, rfl, Lib.hid (Or.inr ⟨a, hlt, rfl⟩), HR, HJ, Lib.hid fun j hj hne => HZ.out j (by omega), HB⟩
          case round =>
            clear HR HJ HZ HB
            obtain ⟨bf, t, hgk, rfl, HT, HR, HJ, HZ, HB⟩ := hrel
            have HGK := Lib.hid hgk
            clear hgk
            rcases HT.out with rfl | ⟨t, ht, rfl⟩
            · have HZ2 := Lib.hid (fun j (hj : j < a + 1) => HZ.out j hj (by omega))
              go_wp2_with fail
              go_roundw
              case rel => exact ⟨a + 1, bf, by omega, by go_num, HR, HJ, HZ2, HB⟩
              case measure => simp [intOf]; omega
            · have x0 := HR.out.cell ht
              have x1 := HR.out.frozen t
              have hXr := HR.out.lt
              obtain ⟨v, hv⟩ : ∃ v, bf t = v := ⟨_, rfl⟩
              rw [hv] at x0
              by_cases hv0 : v = 0
              · subst hv0
                obtain ⟨nb, no, rfl, hnb, d0⟩ := HA.out.get ht
                have d1 := (HB.out.cell (p := ⟨nb, no + t, none⟩) hnb).trans d0
                have hnr : nb < wr.heap.size := Nat.lt_of_lt_of_le hnb HB.out.size
                have hne : ¬ nb = w.heap.size := by omega
                have hne2 : ¬ w.heap.size = nb := by omega
                have hfw := out_fewer HJ.out ht hv
                have HJ2 := Lib.hid (elim_step HJ.out ht hv)
                have HZ2 := Lib.hid (out_zero (i := a + 1) HJ.out ht hv (fun j hj hne => HZ.out j hj (by omega)))
                rcases nxI_ways k K s t with ⟨hs, hnv⟩ | ⟨u, hu, hs, hnv⟩
                · rw [hnv] at d1 HZ2
                  have HR2 := Lib.hid ((HR.out.put ht (-1)).congr (fun i _ => out_none hs i))
                  have HB2 := Lib.hid (HB.out.setCell (p := ⟨w.heap.size, t, none⟩) (Nat.le_refl _) (.int .i64 (-1)))
                  have HF := Lib.hid hfw
                  clear d0 hs hnv HR hv hfw HJ HZ HB
                  go_wp2_with fail
                  go_roundg (leftN k (outK k K s bf t))
                  case measure => rw [HGK.out]; exact HF.out
                  case rel => exact ⟨_, _, rfl, rfl, Lib.hid (Or.inl rfl), HR2, HJ2, HZ2, HB2⟩
                · rw [hnv] at d1 HZ2
                  obtain ⟨hut, hu1⟩ := (elim_facts HJ.out ht hv).2.2 u hu hs
                  have hun := (elim_range HJ.out hu).2
                  have y0 := HR.out.cell hu
                  have y1 := HR.out.frozen u
                  have hut2 : ¬ t = u := fun e => hut e.symm
                  have HR2 := ((HR.out.put ht (-1)).put hu (bf u - 1)).congr (fun i _ => out_some hs i)
                  have HB2 := ((HB.out.setCell (p := ⟨w.heap.size, t, none⟩) (Nat.le_refl _) (.int .i64 (-1))).setCell (p := ⟨w.heap.size, u, none⟩) (Nat.le_refl _) (.int .i64 (bf u - 1)))
                  obtain ⟨z, hz⟩ : ∃ z, bf u = z := ⟨_, rfl⟩
                  rw [hz] at y0 hu1 hun
                  simp only [hz] at HR2 HB2
                  have HR3 := Lib.hid HR2
                  have HB3 := Lib.hid HB2
                  have HF := Lib.hid hfw
                  have hw : IntKind.i64.wrap (z - 1) = z - 1 := by rw [IntKind.wrap_i64]; omega
                  clear d0 hs hnv HR hv hfw HJ HZ HB HR2 HB2 hz
                  go_wp2_with fail
                  go_roundg (leftN k (outK k K s bf t))
                  case measure => rw [HGK.out]; exact HF.out
                  case rel => exact ⟨_, _, rfl, rfl, Lib.hid (Or.inr ⟨u, hu, rfl⟩), HR3, HJ2, HZ2, HB3⟩
              · have HZ2 : Hid (∀ j, j < a + 1 → ¬ bf j = 0) := Lib.hid (fun j hj => by
                  by_cases e : j = t
                  · rw [e, hv]; exact hv0
                  · exact HZ.out j hj (by omega))
                have hv1 : (v == 0) = false := by simpa using hv0
                clear hv HZ
                go_wp2_with fail
                go_roundw
                case rel => exact ⟨a + 1, bf, by omega, by go_num, HR, HJ, HZ2, HB⟩
                case measure => simp [intOf]; omega
        · obtain rfl : a = k := by omega
          have HI := Lib.hid (HR.out.at a)
          clear hlt ha
          go_wp2_with (first
            | (go_at_call 30; (with_reducible refine (indexFunc_N _ HI (by omega)).mono ?_); rintro e w5 ⟨r, hr, rfl, rfl⟩; have HP := Lib.hid hr; clear hr)
            | fail)
          go_ret
          exact ⟨_, firstC_of HJ.out HZ.out HP.out, rfl, HB.out⟩
end Go.Proofs.Ytcnnimhdnmmaoaa
