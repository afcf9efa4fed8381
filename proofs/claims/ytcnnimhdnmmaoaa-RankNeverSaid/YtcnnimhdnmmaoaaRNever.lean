/- The walk of RankNever. -/
import Derived.Test.YtcnnimhdnmmaoaaRnkJ
namespace Go.Proofs.Ytcnnimhdnmmaoaa
open Go.RowKit

/-- With ranks there is no circle. -/
theorem never_circle {n K : Nat} {s : RkT} (h : InvK n K true s) {p : List Nat} (hp : CirIs n K s p) : p = [] := by
  rcases hp with ⟨h, _⟩ | ⟨f, p0, p1, _, p3, _⟩
  · exact h
  · have hl : 0 < p.length := List.length_pos_of_mem (List.mem_of_mem_head? p0)
    obtain ⟨k, hk⟩ : ∃ k, p.length = k + 1 := ⟨p.length - 1, by omega⟩
    rw [hk] at p3
    exact absurd p3 (no_circle h p1)
set_option maxHeartbeats 1000000 in
set_option maxRecDepth 100000 in
theorem rankNever_walk (v0 v1 v2 : Value) (w : World) (g0 : ArgInt w v0) (g1 : ArgInt w v1) (g2 : ArgOps w v2) (u2 : lenOf v2 ≤ 5864062014634) :
    Calls Try.prog 5 #[v0, v1, v2] w fun e w' => e = .returned (.bool true) ∧ Below w.heap.size w w' := by
  obtain ⟨T, rfl⟩ := g0
  obtain ⟨L, rfl⟩ := g1
  obtain ⟨ad, cap, ops, rfl, h0, _, _⟩ := g2
  have hm : ops.length ≤ 5864062014634 := u2
  have HA := Lib.hid h0
  by_cases hb : T < 1 ∨ 16 < T ∨ L < 1 ∨ 16 < L
  · have HB := Lib.hid hb
    clear hb h0
    go_enter Try.func5, Try.ntmps5
    go_wp2_with (first
      | (go_at_call 15; (with_reducible refine (alive8_N _).mono ?_); rintro e w1 ⟨rfl, hb⟩; have B1 := Lib.hid hb; clear hb)
      | (go_at_call 9; (with_reducible refine (play_bad _ _ true _ _ HB.out).mono ?_); rintro e w2 ⟨rfl, rfl⟩)
      | fail)
    go_ret
    exact ⟨rfl, B1.out⟩
  · obtain ⟨n, rfl⟩ : ∃ n : Nat, T = n := ⟨T.toNat, by omega⟩
    obtain ⟨K, rfl⟩ : ∃ K : Nat, L = K := ⟨L.toNat, by omega⟩
    have hn1 : 1 ≤ n := by omega
    have hn2 : n ≤ 16 := by omega
    have hK1 : 1 ≤ K := by omega
    have hK2 : K ≤ 16 := by omega
    have hn3 : n ≤ 17592186044415 := by omega
    obtain ⟨⟨es, s⟩, hr⟩ : ∃ r, runK n K true ops = r := ⟨_, rfl⟩
    have HR := Lib.hid hr
    have hinv := inv_run n K true ops
    rw [hr] at hinv
    have HI := Lib.hid hinv
    obtain ⟨m, hmE⟩ : ∃ m, ops.length = m := ⟨_, rfl⟩
    have HL := Lib.hid hmE
    rw [hmE] at hm ⊢
    have hmm : m ≤ 17592186044416 := by omega
    clear hb h0 hr hinv hmE
    go_enter Try.func5, Try.ntmps5
    go_wp2_with (first
      | (go_at_call 15; (with_reducible refine (alive8_N _).mono ?_); rintro e w1 ⟨rfl, hb⟩; have B1 := Lib.hid hb; have HA1 := Lib.hid (HA.out.step hb); clear hb)
      | (go_at_call 9; (with_reducible refine (play_ok n K true _ HA1 HL hmm hn1 hn2 hK1 hK2 es s HR).mono ?_); rintro e w2 ⟨E2, H2, T2, rfl, _, hH, hT, hb⟩; have B2 := Lib.hid (pstep B1.out hb); have HH := Lib.hid hH; have HT := Lib.hid hT; clear hH hT hb)
      | (go_at_call 13; (with_reducible refine (circle_N _ HH HT hn3).mono ?_); rintro e w3 ⟨ra, rc, pl, hc, _, _, rfl, _, hb⟩; obtain rfl := never_circle HI.out hc; have B3 := Lib.hid (pstep B2.out hb); clear hc hb)
      | fail)
    go_ret
    exact ⟨rfl, B3.out⟩
end Go.Proofs.Ytcnnimhdnmmaoaa
