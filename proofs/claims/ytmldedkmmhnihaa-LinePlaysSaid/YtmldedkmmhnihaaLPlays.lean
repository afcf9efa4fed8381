/- The walk of LinePlays. -/
import Derived.Test.YtmldedkmmhnihaaLinG
import Derived.Test.YtmldedkmmhnihaaPinO
namespace Go.Proofs.Ytmldedkmmhnihaa
open Go.RowKit

set_option maxHeartbeats 4000000 in
set_option maxRecDepth 100000 in
theorem linePlays_bad (ad oad : Option Addr) (cap ocap n : Nat) (l : List PinT) (w : World) (HA : Hid (PinsAt w ad cap l)) (hlen : l.length ≤ 9223372036854775807) (hr : pinsOk l = false) :
    Calls Try.prog 3 #[.slice ad l.length cap, .slice oad n ocap] w fun e w' => e = .returned (.bool true) ∧ Below w.heap.size w w' := by
  go_enter Try.func3, Try.ntmps3
  go_wp2_with (first
    | (go_at_call 7; (with_reducible refine (play_bad _ _ HA hlen hr).mono ?_); rintro e w1 ⟨rfl, hb⟩; have B1 := pstep (Below.refl _ _) hb; clear hb)
    | (go_at_call 8; (with_reducible refine (cright_U _ (HA.out.step B1) hlen false hr).mono ?_); rintro e w2 ⟨rfl, hb⟩; have B2 := pstep B1 hb; clear hb)
    | fail)
  go_ret
  exact ⟨rfl, B2⟩
set_option maxHeartbeats 4000000 in
set_option maxRecDepth 100000 in
theorem linePlays_ok (ad oad : Option Addr) (cap ocap n : Nat) (l : List PinT) (K P : Nat → Int) (w : World) (HA : Hid (PinsAt w ad cap l)) (HO : Hid (OpsAt w oad ocap K P n)) (hlen : l.length ≤ 9223372036854775807) (hr : pinsOk l = true) (hn : n ≤ 8796093022208) :
    Calls Try.prog 3 #[.slice ad l.length cap, .slice oad n ocap] w fun e w' => e = .returned (.bool true) ∧ Below w.heap.size w w' := by
  obtain ⟨⟨out, ss⟩, hp⟩ : ∃ st, playTo l K P n = st := ⟨_, rfl⟩
  have hll := playTo_len l K P n
  rw [hp] at hll
  have HOL : Hid (out.length = l.length) := Lib.hid hll.1
  have hs1 : ss.length ≤ 9223372036854775807 := by have : ss.length ≤ n := hll.2; omega
  have HP := Lib.hid hp
  clear hp hll
  go_enter Try.func3, Try.ntmps3
  go_wp2_with (first
    | (go_at_call 7; (with_reducible refine (play_U _ HA HO hr hn out ss HP _ (Lib.hid rfl)).mono ?_); rintro e w1 ⟨ra, rc, sa, sc, rfl, RA, SA, _, _, hb⟩; have B1 := pstep (Below.refl _ _) hb; clear hb)
    | (go_at_call 8; (with_reducible refine (cright_U _ (HA.out.step B1) hlen true hr).mono ?_); rintro e w2 ⟨rfl, hb⟩; have B2 := pstep B1 hb; have C2 := hb; clear hb)
    | (go_at_call 9; (with_reducible refine (cplay_U _ (Lib.hid (HA.out.step B2)) (Lib.hid (HO.out.step B2)) hr hn out ss HP).mono ?_); rintro e w3 ⟨ra2, rc2, sa2, sc2, rfl, RA2, SA2, hb⟩; have B3 := pstep B2 hb; have C3 := pstep C2 hb; clear hb)
    | (go_at_call 10; (with_reducible refine (equalP_N _ HOL (RA.step C3) RA2 hlen).mono ?_); rintro e w4 ⟨rfl, hb⟩; have B4 := pstep B3 hb; have C4 := pstep C3 hb; have D4 := hb; clear hb)
    | (go_at_call 11; (with_reducible refine (equalS_U _ (SA.step C4) (SA2.step D4) hs1).mono ?_); rintro e w5 ⟨rfl, hb⟩; have B5 := pstep B4 hb; clear hb)
    | fail)
  go_ret
  exact ⟨rfl, B5⟩
theorem linePlays_walk (v0 v1 : Value) (w : World) (g0 : ArgPins w v0) (g1 : ArgOps w v1) (u1 : lenOf v1 ≤ 8796093021952) :
    Calls Try.prog 3 #[v0, v1] w fun e w' => e = .returned (.bool true) ∧ Below w.heap.size w w' := by
  obtain ⟨ad, cap, l, rfl, hlen, HA⟩ := g0
  obtain ⟨oad, n, ocap, K, P, rfl, hn, HO⟩ := g1
  have HA' := Lib.hid HA
  by_cases hr : pinsOk l = true
  · exact linePlays_ok ad oad cap ocap n l K P w HA' (Lib.hid HO) hlen hr (Nat.le_trans u1 (by decide))
  · exact linePlays_bad ad oad cap ocap n l w HA' hlen (by simpa using hr)
end Go.Proofs.Ytmldedkmmhnihaa
