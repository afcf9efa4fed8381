/- The walk of RankSome. -/
import Derived.Test.YtcnnimhdnmmaoaaRnkJ
namespace Go.Proofs.Ytcnnimhdnmmaoaa
open Go.RowKit

/-- Does the thread wait for a lock that is held? -/
def AskT (K : Nat) (s : RkT) (t : Nat) : Prop := ∃ l : Nat, s.wait t = l ∧ l < K ∧ ¬ s.hold l = -1
/-- Can he who holds it go on? -/
def FreeT (K n : Nat) (s : RkT) (t : Nat) : Prop := ∃ l u : Nat, s.wait t = l ∧ l < K ∧ s.hold l = u ∧ u < n ∧ (s.wait u = -1 ∨ ∃ m : Nat, s.wait u = m ∧ m < K ∧ s.hold m = -1)
theorem up_to {P : Nat → Prop} {k : Nat} {b : Bool} (h : b = true ↔ ∃ t, t < k ∧ P t) (hn : ¬ P k) : b = true ↔ ∃ t, t < k + 1 ∧ P t := by
  rw [h]
  constructor
  · rintro ⟨t, h1, h2⟩; exact ⟨t, by omega, h2⟩
  · rintro ⟨t, h1, h2⟩
    by_cases e : t = k
    · subst e; exact absurd h2 hn
    · exact ⟨t, by omega, h2⟩
theorem up_yes {P : Nat → Prop} {k : Nat} (h : P k) : true = true ↔ ∃ t, t < k + 1 ∧ P t := ⟨fun _ => ⟨k, Nat.lt_succ_self k, h⟩, fun _ => rfl⟩
theorem up_was {P : Nat → Prop} {k : Nat} (h : true = true ↔ ∃ t, t < k ∧ P t) : true = true ↔ ∃ t, t < k + 1 ∧ P t := ⟨fun _ => by obtain ⟨t, h1, h2⟩ := h.1 rfl; exact ⟨t, by omega, h2⟩, fun _ => rfl⟩
theorem some_end {n K : Nat} {s : RkT} (h : InvK n K true s) {a b : Bool} (ha : a = true ↔ ∃ t, t < n ∧ AskT K s t) (hb : b = true ↔ ∃ t, t < n ∧ FreeT K n s t) : (!a || b) = true := by
  cases a with
  | false => rfl
  | true =>
    obtain ⟨t, ht, l, h1, h2, h3⟩ := ha.1 rfl
    obtain ⟨t', l', u, g1, g2, g3, g4, g5, g6⟩ := some_free h K t l ht h1 h2 h3 (by omega)
    rw [hb.2 ⟨t', g1, l', u, g2, g3, g4, g5, g6⟩]
    rfl
set_option maxHeartbeats 2000000 in
set_option maxRecDepth 100000 in
theorem rankSome_walk (v0 v1 v2 : Value) (w : World) (g0 : ArgInt w v0) (g1 : ArgInt w v1) (g2 : ArgOps w v2) (u2 : lenOf v2 ≤ 5864062014634) :
    Calls Try.prog 6 #[v0, v1, v2] w fun e w' => e = .returned (.bool true) ∧ Below w.heap.size w w' := by
  obtain ⟨T, rfl⟩ := g0
  obtain ⟨L, rfl⟩ := g1
  obtain ⟨ad, cap, ops, rfl, h0, _, _⟩ := g2
  have hm : ops.length ≤ 5864062014634 := u2
  have HA := Lib.hid h0
  by_cases hb : T < 1 ∨ 16 < T ∨ L < 1 ∨ 16 < L
  · have HB := Lib.hid hb
    clear hb h0
    go_enter Try.func6, Try.ntmps6
    go_wp2_with (first
      | (go_at_call 15; (with_reducible refine (alive8_N _).mono ?_); rintro e w1 ⟨rfl, hb⟩; have B1 := Lib.hid hb; clear hb)
      | (go_at_call 9; (with_reducible refine (play_bad _ _ true _ _ HB.out).mono ?_); rintro e w2 ⟨rfl, rfl⟩)
      | fail)
    go_ret
    exact ⟨rfl, B1.out⟩
  · obtain ⟨n, rfl⟩ : ∃ n : Nat, T = n := ⟨T.toNat, by omega⟩
    obtain ⟨K, rfl⟩ : ∃ K : Nat, L = K := ⟨L.toNat, by omega⟩
    have hn1 : 1 ≤ n := by omega
    have hn2 : n ≤ 16 := by omega
    have hK1 : 1 ≤ K := by omega
    have hK2 : K ≤ 16 := by omega
    obtain ⟨⟨es, s⟩, hr⟩ : ∃ r, runK n K true ops = r := ⟨_, rfl⟩
    have HR := Lib.hid hr
    have hinv := inv_run n K true ops
    rw [hr] at hinv
    have HI := Lib.hid hinv
    obtain ⟨m, hmE⟩ : ∃ m, ops.length = m := ⟨_, rfl⟩
    have HL := Lib.hid hmE
    rw [hmE] at hm ⊢
    have hmm : m ≤ 17592186044416 := by omega
    clear hb h0 hr hinv hmE
    go_enter Try.func6, Try.ntmps6
    go_wp2_with (first
      | (go_at_call 15; (with_reducible refine (alive8_N _).mono ?_); rintro e w1 ⟨rfl, hb⟩; have B1 := Lib.hid hb; have HA1 := Lib.hid (HA.out.step hb); clear hb)
      | (go_at_call 9; (with_reducible refine (play_ok n K true _ HA1 HL hmm hn1 hn2 hK1 hK2 es s HR).mono ?_); rintro e w2 ⟨E2, H2, T2, rfl, _, hH, hT, hb⟩; have B2 := Lib.hid (pstep B1.out hb); have HH := Lib.hid hH; have HT := Lib.hid hT; clear hH hT hb)
      | fail)
    go_loop [32] (fun i => ∃ k : Nat, k ≤ n ∧ i = .int .i64 k) (fun i => n - (intOf i).toNat)
    case atStart => exact ⟨0, Nat.zero_le _, rfl⟩
    case round =>
      obtain ⟨k, hk, rfl⟩ := hrel
      by_cases hlt : k < n
      · obtain ⟨tb, to, et, htb, d0⟩ := HT.out.get hlt
        simp only [Option.some.injEq, Addr.mk.injEq, and_true] at et
        obtain ⟨rfl, rfl⟩ := et
        rw [Nat.zero_add] at d0
        have hr := HI.out.wr k hlt
        obtain ⟨x, hx⟩ : ∃ x, s.wait k = x := ⟨_, rfl⟩
        rw [hx] at d0 hr
        have hxK : x < (K : Int) := by omega
        clear hr hx
        go_wp2_with fail
        go_round
        case rel => exact ⟨k + 1, by omega, by go_num⟩
        case measure => simp [intOf]; omega
      · obtain rfl : k = n := by omega
        clear hlt hk
        go_wp2_with fail
        go_loop [11, 12, 43] (fun a b i => ∃ (j : Nat) (p q : Bool), j ≤ k ∧ i = .int .i64 j ∧ a = .bool p ∧ b = .bool q ∧ Hid (p = true ↔ ∃ t, t < j ∧ AskT K s t) ∧ Hid (q = true ↔ ∃ t, t < j ∧ FreeT K k s t)) (fun _ _ i => k - (intOf i).toNat)
        case atStart => exact ⟨0, false, false, Nat.zero_le _, rfl, rfl, rfl, Lib.hid ⟨fun h => (by cases h), fun ⟨t, h, _⟩ => by omega⟩, Lib.hid ⟨fun h => (by cases h), fun ⟨t, h, _⟩ => by omega⟩⟩
        case round =>
          obtain ⟨j, p, q, hj, rfl, rfl, rfl, HP, HQ⟩ := hrel
          by_cases hlt : j < k
          · obtain ⟨tb, to, et, htb, d0⟩ := HT.out.get hlt
            simp only [Option.some.injEq, Addr.mk.injEq, and_true] at et
            obtain ⟨rfl, rfl⟩ := et
            rw [Nat.zero_add] at d0
            have hr := HI.out.wr j hlt
            obtain ⟨x, hx⟩ : ∃ x, s.wait j = x := ⟨_, rfl⟩
            rw [hx] at d0 hr
            rcases hr with rfl | ⟨hx0, hxK⟩
            · have HP2 := Lib.hid (up_to HP.out (k := j) (fun ⟨l, h, _⟩ => by rw [hx] at h; omega))
              have HQ2 := Lib.hid (up_to HQ.out (k := j) (fun ⟨l, u, h, _⟩ => by rw [hx] at h; omega))
              clear hx
              go_wp2_with fail
              go_round
              case rel => exact ⟨j + 1, p, q, by omega, by go_num, rfl, rfl, HP2, HQ2⟩
              case measure => simp [intOf]; omega
            · obtain ⟨l, rfl⟩ : ∃ l : Nat, x = l := ⟨x.toNat, by omega⟩
              have hlK : l < K := by omega
              have hh := HI.out.hr l hlK
              obtain ⟨hb, ho, eh, hhb, d1⟩ := HH.out.get hlK
              simp only [Option.some.injEq, Addr.mk.injEq, and_true] at eh
              obtain ⟨rfl, rfl⟩ := eh
              rw [Nat.zero_add] at d1
              obtain ⟨y, hy⟩ : ∃ y, s.hold l = y := ⟨_, rfl⟩
              rw [hy] at d1 hh
              rcases hh with rfl | ⟨hy0, hyn⟩
              · have HP2 := Lib.hid (up_to HP.out (k := j) (fun ⟨l', h, _, h2⟩ => by
                  rw [hx] at h
                  obtain rfl : l = l' := by omega
                  exact h2 hy))
                have HQ2 := Lib.hid (up_to HQ.out (k := j) (fun ⟨l', u, h, _, h2, _⟩ => by
                  rw [hx] at h
                  obtain rfl : l = l' := by omega
                  rw [hy] at h2
                  omega))
                clear hx hy
                go_wp2_with fail
                go_round
                case rel => exact ⟨j + 1, p, q, by omega, by go_num, rfl, rfl, HP2, HQ2⟩
                case measure => simp [intOf]; omega
              · obtain ⟨u, rfl⟩ : ∃ u : Nat, y = u := ⟨y.toNat, by omega⟩
                have hun : u < k := by omega
                have HP2 := Lib.hid (up_yes (P := AskT K s) (k := j) ⟨l, hx, hlK, by rw [hy]; omega⟩)
                cases q with
                | true =>
                  have HQ2 := Lib.hid (up_was HQ.out)
                  clear hx hy
                  go_wp2_with fail
                  go_round
                  case rel => exact ⟨j + 1, true, true, by omega, by go_num, rfl, rfl, HP2, HQ2⟩
                  case measure => simp [intOf]; omega
                | false =>
                  have hr2 := HI.out.wr u hun
                  obtain ⟨tb, to, et, _, d2⟩ := HT.out.get hun
                  simp only [Option.some.injEq, Addr.mk.injEq, and_true] at et
                  obtain ⟨rfl, rfl⟩ := et
                  rw [Nat.zero_add] at d2
                  obtain ⟨z, hz⟩ : ∃ z, s.wait u = z := ⟨_, rfl⟩
                  rw [hz] at d2 hr2
                  rcases hr2 with rfl | ⟨hz0, hzK⟩
                  · have HQ2 := Lib.hid (up_yes (P := FreeT K k s) (k := j) ⟨l, u, hx, hlK, hy, hun, Or.inl hz⟩)
                    clear hx hy hz
                    go_wp2_with fail
                    go_round
                    case rel => exact ⟨j + 1, true, true, by omega, by go_num, rfl, rfl, HP2, HQ2⟩
                    case measure => simp [intOf]; omega
                  · obtain ⟨m', rfl⟩ : ∃ m : Nat, z = m := ⟨z.toNat, by omega⟩
                    have hmK : m' < K := by omega
                    have hh2 := HI.out.hr m' hmK
                    obtain ⟨hb, ho, eh, _, d3⟩ := HH.out.get hmK
                    simp only [Option.some.injEq, Addr.mk.injEq, and_true] at eh
                    obtain ⟨rfl, rfl⟩ := eh
                    rw [Nat.zero_add] at d3
                    obtain ⟨y2, hy2⟩ : ∃ y, s.hold m' = y := ⟨_, rfl⟩
                    rw [hy2] at d3 hh2
                    rcases hh2 with rfl | ⟨hy20, hy2n⟩
                    · have HQ2 := Lib.hid (up_yes (P := FreeT K k s) (k := j) ⟨l, u, hx, hlK, hy, hun, Or.inr ⟨m', hz, hmK, hy2⟩⟩)
                      clear hx hy hz hy2
                      go_wp2_with fail
                      go_round
                      case rel => exact ⟨j + 1, true, true, by omega, by go_num, rfl, rfl, HP2, HQ2⟩
                      case measure => simp [intOf]; omega
                    · have HQ2 := Lib.hid (up_to HQ.out (k := j) (fun ⟨l', u', h, _, h2, _, h3⟩ => by
                        rw [hx] at h
                        obtain rfl : l = l' := by omega
                        rw [hy] at h2
                        obtain rfl : u = u' := by omega
                        rw [hz] at h3
                        rcases h3 with h3 | ⟨m2, h3, _, h4⟩
                        · omega
                        · obtain rfl : m' = m2 := by omega
                          rw [hy2] at h4
                          omega))
                      have hd : decide (y2 < 0) = false := decide_eq_false (by omega)
                      clear hx hy hz hy2
                      go_wp2_with fail
                      go_round
                      case rel => exact ⟨j + 1, true, false, by omega, by go_num, rfl, rfl, HP2, HQ2⟩
                      case measure => simp [intOf]; omega
          · obtain rfl : j = k := by omega
            have hend := some_end HI.out HP.out HQ.out
            clear hlt hj
            cases p <;> cases q
            all_goals first
              | (cases hend; done)
              | skip
            all_goals go_wp2_with fail
            all_goals go_ret
            all_goals exact ⟨rfl, B2.out⟩
end Go.Proofs.Ytcnnimhdnmmaoaa
