/- The walk of RankTrue. -/
import Derived.Test.YtcnnimhdnmmaoaaRnkJ
namespace Go.Proofs.Ytcnnimhdnmmaoaa
open Go.RowKit

theorem nums_get {l : List Nat} {i t : Nat} (h : l[i]? = some t) : (nums l)[i]? = some (t : Int) := by
  unfold nums; rw [List.getElem?_map, h]; rfl
theorem fn_nums {l : List Nat} {i t : Nat} (h : l[i]? = some t) : fnL (nums l) i = t := by
  unfold fnL
  rw [List.getD_eq_getElem?_getD, nums_get h]
  rfl
theorem IntAt.take {w : World} {ad : Option Addr} {cap n k : Nat} {f : Nat → Int} (h : IntAt w ad cap n f) (hk : k ≤ n) : IntAt w ad cap k f :=
  ⟨fun e => by obtain ⟨h1, h2⟩ := h.1 e; exact ⟨h1, by omega⟩, fun h0 => by
    obtain ⟨b, off, e, hb, hl⟩ := h.2 (by omega)
    exact ⟨b, off, e, hb, fun i hi => hl i (by omega)⟩⟩
set_option maxHeartbeats 2000000 in
set_option maxRecDepth 100000 in
theorem rankTrue_walk (v0 v1 : Value) (w : World) (g0 : ArgKs w v0) (g1 : ArgKs w v1) (u1 : lenOf v1 ≤ 17592186044415) :
    Calls Try.prog 8 #[v0, v1] w fun e w' => e = .returned (.bool true) ∧ Below w.heap.size w w' := by
  obtain ⟨a0, c0, l0, rfl, h0, _, _⟩ := g0
  obtain ⟨a1, c1, l1, rfl, h1, _, _⟩ := g1
  have hn : l1.length ≤ 17592186044415 := u1
  obtain ⟨s, hs⟩ : ∃ s : RkT, s = ⟨fnL l0, fnL l1⟩ := ⟨_, rfl⟩
  have H1 : Hid (IntAt w a0 c0 l0.length s.hold) := Lib.hid (by rw [hs]; exact IntAt.of h0 rfl)
  have H2 : Hid (IntAt w a1 c1 l1.length s.wait) := Lib.hid (by rw [hs]; exact IntAt.of h1 rfl)
  clear h0 h1 hs
  generalize l0.length = K at H1 ⊢
  generalize l1.length = n at H2 hn ⊢
  go_enter Try.func8, Try.ntmps8
  go_wp2_with (first
    | (go_at_call 15; (with_reducible refine (alive8_N _).mono ?_); rintro e w1 ⟨rfl, hb⟩; have B1 := Lib.hid hb; have H11 := Lib.hid (H1.out.step hb); have H21 := Lib.hid (H2.out.step hb); clear hb)
    | (go_at_call 13; (with_reducible refine (circle_N _ H11 H21 hn).mono ?_); rintro e w2 ⟨ra, rc, pl, hc, hl, hrc, rfl, hat, hb⟩; have HC := Lib.hid hc; have HL := Lib.hid hl; have HRC := Lib.hid hrc; have HA := Lib.hid hat; have B2 := Lib.hid (pstep B1.out hb); have H12 := Lib.hid (H11.out.step hb); have H22 := Lib.hid (H21.out.step hb); clear hc hl hrc hat hb)
    | fail)
  have HF := Lib.hid (fun i t (h : pl[i]? = some t) => cir_facts HC.out h)
  obtain ⟨m, hm⟩ : ∃ m, pl.length = m := ⟨_, rfl⟩
  have HM := Lib.hid hm
  have HI : Hid (IntAt w2 ra rc m (fnL (nums pl))) := Lib.hid (IntAt.of HA.out (by rw [nums_len, hm]))
  have hmn := HL.out
  have hrc := HRC.out
  rw [hm] at hmn hrc
  simp only [hm] at HF ⊢
  clear hm HL HRC HC
  go_loop [16] (fun i => ∃ k : Nat, k ≤ m ∧ i = .int .i64 k) (fun i => m - (intOf i).toNat)
  case atStart => exact ⟨0, Nat.zero_le _, rfl⟩
  case round =>
    obtain ⟨k, hk, rfl⟩ := hrel
    by_cases hlt : k < m
    · obtain ⟨t, ht⟩ : ∃ t, pl[k]? = some t := ⟨pl[k]'(by rw [HM.out]; exact hlt), List.getElem?_eq_getElem _⟩
      obtain ⟨htn, ⟨u, hu, hsuc⟩, hno⟩ := HF.out k t ht
      obtain ⟨l, hwl, hlK, hhl, hun⟩ := suc_some hsuc
      obtain ⟨q, hq⟩ : ∃ q, (k + 1) % m = q := ⟨_, rfl⟩
      have hqm : q < m := by rw [← hq]; exact Nat.mod_lt _ (by omega)
      rw [hq] at hu
      have hwk : IntKind.i64.wrap ((k : Int) + 1) = (k : Int) + 1 := by rw [IntKind.wrap_i64]; omega
      have hwk0 : IntKind.i64.wrap (k : Int) = (k : Int) := by rw [IntKind.wrap_i64]; omega
      have hrem : ((k : Int) + 1).tmod (m : Int) = (q : Int) := by rw [← hq]; exact Int.ofNat_tmod (k + 1) m
      have hwq : IntKind.i64.wrap (q : Int) = (q : Int) := by rw [IntKind.wrap_i64]; omega
      have hkm : (k : Int) < (m : Int) := by omega
      have hqm2 : (q : Int) < (m : Int) := by omega
      have hm0 : ¬ (m : Int) = 0 := by omega
      obtain ⟨b, off, rfl, hb, d0⟩ := HI.out.get hlt
      obtain ⟨b', off', e', _, d1⟩ := HI.out.get hqm
      simp only [Option.some.injEq, Addr.mk.injEq, and_true] at e'
      obtain ⟨rfl, rfl⟩ := e'
      rw [fn_nums ht] at d0
      rw [fn_nums hu] at d1
      obtain ⟨wb, wo, rfl, hwb, d2⟩ := H22.out.get htn
      rw [hwl] at d2
      obtain ⟨hb2, ho, rfl, hhb, d3⟩ := H12.out.get hlK
      rw [hhl] at d3
      have HK := Lib.hid (HI.out.take (k := k) (by omega))
      have hq0 : Hid (false = true ↔ ∃ i, i < k ∧ fnL (nums pl) i = (t : Int)) := Lib.hid ⟨fun h => (by cases h), fun ⟨i, hi, e⟩ => by
        obtain ⟨t2, ht2⟩ : ∃ t, pl[i]? = some t := ⟨pl[i]'(by rw [HM.out]; omega), List.getElem?_eq_getElem _⟩
        rw [fn_nums ht2] at e
        have : t2 = t := by omega
        subst this
        exact absurd ht2 (hno i hi)⟩
      have hkb : k ≤ 9223372036854775807 := by omega
      have htn2 : (t : Int) < (n : Int) := by omega
      have hlK2 : (l : Int) < (K : Int) := by omega
      clear hno hsuc hu ht hq hwl hhl
      go_wp2_with (first
        | (go_at_call 17; (with_reducible refine (contains_N _ _ HK hkb _ hq0).mono ?_); rintro e w3 ⟨rfl, rfl⟩)
        | fail)
      go_round
      case rel => exact ⟨k + 1, by omega, by go_num⟩
      case measure => simp [intOf]; omega
    · obtain rfl : k = m := by omega
      clear hlt hk
      go_wp2_with fail
      go_ret
      exact ⟨rfl, B2.out⟩
end Go.Proofs.Ytcnnimhdnmmaoaa
