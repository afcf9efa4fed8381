/- The walk of RankCircle. -/
import Derived.Test.YtcnnimhdnmmaoaaRnkH
import Derived.Test.YtcnnimhdnmmaoaaRnkI
namespace Go.Proofs.Ytcnnimhdnmmaoaa
open Go.RowKit

set_option maxHeartbeats 1000000 in
set_option maxRecDepth 100000 in
theorem rankCircle_walk (v0 v1 : Value) (w : World) (g0 : ArgKs w v0) (g1 : ArgKs w v1) (u1 : lenOf v1 ≤ 17592186044415) :
    Calls Try.prog 4 #[v0, v1] w fun e w' => e = .returned (.bool true) ∧ Below w.heap.size w w' := by
  obtain ⟨a0, c0, l0, rfl, h0, _, _⟩ := g0
  obtain ⟨a1, c1, l1, rfl, h1, _, _⟩ := g1
  have hn : l1.length ≤ 17592186044415 := u1
  obtain ⟨s, hs⟩ : ∃ s : RkT, s = ⟨fnL l0, fnL l1⟩ := ⟨_, rfl⟩
  have H1 : Hid (IntAt w a0 c0 l0.length s.hold) := Lib.hid (by rw [hs]; exact IntAt.of h0 rfl)
  have H2 : Hid (IntAt w a1 c1 l1.length s.wait) := Lib.hid (by rw [hs]; exact IntAt.of h1 rfl)
  clear h0 h1 hs
  generalize l0.length = K at H1 ⊢
  generalize l1.length = n at H2 hn ⊢
  go_enter Try.func4, Try.ntmps4
  go_wp2_with (first
    | (go_at_call 13; (with_reducible refine (circle_N _ H1 H2 hn).mono ?_); rintro e w1 ⟨ra, rc, pl, hc, hl, rfl, hat, hb⟩; have HC := Lib.hid hc; have HL := Lib.hid hl; have HA := Lib.hid hat; have B1 := Lib.hid hb; have H3 := Lib.hid (H1.out.step hb); have H4 := Lib.hid (H2.out.step hb); clear hc hl hat hb)
    | (go_at_call 14; (with_reducible refine (hcircle_N _ H3 H4 hn).mono ?_); rintro e w2 ⟨ra2, rc2, pl2, hc, hl, rfl, hat, hb⟩; obtain rfl := cir_uniq HC.out hc; have HA2 := Lib.hid hat; have B2 := Lib.hid (pstep B1.out hb); have HA1 := Lib.hid (HA.out.step hb); have HLE := Lib.hid (nums_len pl); have hpl : pl.length ≤ 9223372036854775807 := (by have := HL.out; omega); clear hc hl hat hb)
    | (go_at_call 12; (with_reducible refine (equalI _ HLE HA1 HA2 hpl).mono ?_); rintro e w3 ⟨rfl, hb⟩; have B3 := Lib.hid (pstep B2.out hb); clear hb)
    | fail)
  go_ret
  exact ⟨rfl, B3.out⟩
end Go.Proofs.Ytcnnimhdnmmaoaa
