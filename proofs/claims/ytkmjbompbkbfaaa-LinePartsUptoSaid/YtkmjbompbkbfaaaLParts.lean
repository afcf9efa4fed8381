/- The walk of LineParts. -/
import Derived.Test.YtkmjbompbkbfaaaLinS
import Derived.Test.YtkmjbompbkbfaaaPinO
import Derived.Test.YtkmjbompbkbfaaaLinT
namespace Go.Proofs.Ytkmjbompbkbfaaa
open Go.RowKit

set_option maxHeartbeats 4000000 in
set_option maxRecDepth 100000 in
theorem lineParts_bad (ad oa1 oa2 : Option Addr) (cap oc1 oc2 n1 n2 : Nat) (l : List PinT) (K1 P1 K2 P2 : Nat → Int) (w : World) (HA : Hid (PinsAt w ad cap l)) (HO1 : Hid (OpsAt w oa1 oc1 K1 P1 n1)) (HO2 : Hid (OpsAt w oa2 oc2 K2 P2 n2)) (hlen : l.length ≤ 9223372036854775807) (hn1 : n1 ≤ 1048576) (hn2 : n2 ≤ 1048576) (hr : pinsOk l = false) :
    Calls Try.prog 9 #[.slice ad l.length cap, .slice oa1 n1 oc1, .slice oa2 n2 oc2] w fun e w' => e = .returned (.bool true) ∧ Below w.heap.size w w' := by
  obtain ⟨L, hL⟩ : ∃ L, L = opsOf K1 P1 n1 ++ opsOf K2 P2 n2 := ⟨_, rfl⟩
  have hLl : L.length = n1 + n2 := by rw [hL, List.length_append, opsOf_len, opsOf_len]
  have HN1 : Hid ((opsOf K1 P1 n1).length = n1) := Lib.hid (opsOf_len K1 P1 n1)
  have HN2 : Hid ((opsOf K2 P2 n2).length = n2) := Lib.hid (opsOf_len K2 P2 n2)
  obtain ⟨N, hN⟩ : ∃ N, N = n1 + n2 := ⟨_, rfl⟩
  have HNN := Lib.hid hN
  have hN2 : N ≤ 2097152 := by omega
  have HLL : Hid (L.length = N) := Lib.hid (by rw [hLl, hN])
  have HL := Lib.hid hL
  have BW := Below.refl w.heap.size w
  have hn2' : n2 ≤ 2097152 := by omega
  have HPE : Hid (playTo [] K2 P2 n2 = ([], [])) := Lib.hid (playTo_empty K2 P2 n2)
  clear hL hLl hN
  go_enter Try.func9, Try.ntmps9
  go_wp2_with (first
    | (go_at_call 17; (with_reducible refine (alive3_R _).mono ?_); rintro e wn ⟨rfl, hb⟩; have BW := pstep BW hb; have HA := Lib.hid (HA.out.step hb); have HO1 := Lib.hid (HO1.out.step hb); have HO2 := Lib.hid (HO2.out.step hb); clear hb)
    | (go_at_call 16; (with_reducible refine (play_bad _ _ HA hlen hr).mono ?_); rintro e wn ⟨rfl, hb⟩; have BW := pstep BW hb; have HA := Lib.hid (HA.out.step hb); have HO1 := Lib.hid (HO1.out.step hb); have HO2 := Lib.hid (HO2.out.step hb); have HE : Hid (PinsAt wn none 0 []) := Lib.hid ⟨fun _ => ⟨rfl, rfl⟩, fun h => by simp at h⟩; clear hb)
    | (go_at_call 16; (with_reducible refine (play_U _ HE HO2 rfl hn2' [] [] HPE 0 (Lib.hid rfl)).mono ?_); rintro e wn ⟨ra, rc, sa, sc, rfl, _, _, _, _, hb⟩; have BW := pstep BW hb; have HA := Lib.hid (HA.out.step hb); have HO1 := Lib.hid (HO1.out.step hb); have HO2 := Lib.hid (HO2.out.step hb); clear hb)
    | (go_at_call 21; (with_reducible refine (concat_PinOp _ _ oa1 oa2 n1 n2 oc1 oc2 _ _ (Lib.hid (heap_alloc_new _ _)) HN1 HN2 (Lib.hid (ops_at (HO1.out.step (below_alloc _ _)))) (Lib.hid (ops_at (HO2.out.step (below_alloc _ _)))) hn1 hn2 N HNN).mono ?_); rintro e wn ⟨ka, kc, rfl, KA, hb⟩; have hb := (below_alloc _ _).trans (hb.mono (below_alloc _ _).size); have BW := pstep BW hb; have HA := Lib.hid (HA.out.step hb); have HO1 := Lib.hid (HO1.out.step hb); have HO2 := Lib.hid (HO2.out.step hb); have KO := ops_from KA; rw [← HL.out, HLL.out] at KO; have KO := Lib.hid KO; clear KA; clear hb)
    | fail)
  go_ret
  exact ⟨rfl, BW⟩
set_option maxHeartbeats 4000000 in
set_option maxRecDepth 100000 in
theorem lineParts_ok (ad oa1 oa2 : Option Addr) (cap oc1 oc2 n1 n2 : Nat) (l : List PinT) (K1 P1 K2 P2 : Nat → Int) (w : World) (HA : Hid (PinsAt w ad cap l)) (HO1 : Hid (OpsAt w oa1 oc1 K1 P1 n1)) (HO2 : Hid (OpsAt w oa2 oc2 K2 P2 n2)) (hlen : l.length ≤ 9223372036854775807) (hn1 : n1 ≤ 1048576) (hn2 : n2 ≤ 1048576) (hr : pinsOk l = true) :
    Calls Try.prog 9 #[.slice ad l.length cap, .slice oa1 n1 oc1, .slice oa2 n2 oc2] w fun e w' => e = .returned (.bool true) ∧ Below w.heap.size w w' := by
  obtain ⟨L, hL⟩ : ∃ L, L = opsOf K1 P1 n1 ++ opsOf K2 P2 n2 := ⟨_, rfl⟩
  have hLl : L.length = n1 + n2 := by rw [hL, List.length_append, opsOf_len, opsOf_len]
  have HN1 : Hid ((opsOf K1 P1 n1).length = n1) := Lib.hid (opsOf_len K1 P1 n1)
  have HN2 : Hid ((opsOf K2 P2 n2).length = n2) := Lib.hid (opsOf_len K2 P2 n2)
  obtain ⟨N, hN⟩ : ∃ N, N = n1 + n2 := ⟨_, rfl⟩
  have HNN := Lib.hid hN
  have hN2 : N ≤ 2097152 := by omega
  have HLL : Hid (L.length = N) := Lib.hid (by rw [hLl, hN])
  have HL := Lib.hid hL
  have BW := Below.refl w.heap.size w
  have hn1' : n1 ≤ 2097152 := by omega
  have hn2' : n2 ≤ 2097152 := by omega
  obtain ⟨⟨x, s⟩, h1⟩ : ∃ st, playTo l K1 P1 n1 = st := ⟨_, rfl⟩
  obtain ⟨⟨y, t⟩, h2⟩ : ∃ st, playTo x K2 P2 n2 = st := ⟨_, rfl⟩
  have hx1 := playTo_len l K1 P1 n1
  have hy1 := playTo_len x K2 P2 n2
  have hxok : pinsOk x = true := by have := playTo_ok hr K1 P1 n1; rw [h1] at this; exact this
  rw [h1] at hx1
  rw [h2] at hy1
  have HLX : Hid (x.length = l.length) := Lib.hid hx1.1
  have HLY : Hid (y.length = l.length) := Lib.hid (hy1.1.trans hx1.1)
  have hs1 : s.length ≤ 1048576 := Nat.le_trans hx1.2 hn1
  have ht1 : t.length ≤ 1048576 := Nat.le_trans hy1.2 hn2
  obtain ⟨u, hu⟩ : ∃ u, u = s ++ t := ⟨_, rfl⟩
  have h3 := play_parts l K1 P1 K2 P2 n1 n2 x y s t h1 h2
  rw [← hL, hLl, ← hN, ← hu] at h3
  have HUL : Hid (u.length = s.length + t.length) := Lib.hid (by rw [hu, List.length_append])
  have hu63 : u.length ≤ 9223372036854775807 := by rw [HUL.out]; omega
  have HUE := Lib.hid hu
  have H1 := Lib.hid h1
  have H2 := Lib.hid h2
  have H3 := Lib.hid h3
  clear h1 h2 h3 hx1 hy1 hu hL hLl hN
  go_enter Try.func9, Try.ntmps9
  go_wp2_with (first
    | (go_at_call 17; (with_reducible refine (alive3_R _).mono ?_); rintro e wn ⟨rfl, hb⟩; have BW := pstep BW hb; have HA := Lib.hid (HA.out.step hb); have HO1 := Lib.hid (HO1.out.step hb); have HO2 := Lib.hid (HO2.out.step hb); clear hb)
    | (go_at_call 16; (with_reducible refine (play_U _ HA KO hr hN2 y u H3 l.length (Lib.hid rfl)).mono ?_); rintro e wn ⟨za, zc, ua, uc, rfl, RA, SA, _, _, hb⟩; have BW := pstep BW hb; have HS := Lib.hid (HS.out.step hb); have HY := Lib.hid (HY.out.step hb); have HT := Lib.hid (HT.out.step hb); have HZ := Lib.hid RA; have HU := Lib.hid SA; clear hb RA SA)
    | (go_at_call 16; (with_reducible refine (play_U _ HX HO2 hxok hn2' y t H2 l.length HLX).mono ?_); rintro e wn ⟨ya, yc, ta, tc, rfl, RA, SA, _, _, hb⟩; have BW := pstep BW hb; have HA := Lib.hid (HA.out.step hb); have HO1 := Lib.hid (HO1.out.step hb); have HO2 := Lib.hid (HO2.out.step hb); have HS := Lib.hid (HS.out.step hb); have HY := Lib.hid RA; have HT := Lib.hid SA; clear hb RA SA)
    | (go_at_call 16; (with_reducible refine (play_U _ HA HO1 hr hn1' x s H1 l.length (Lib.hid rfl)).mono ?_); rintro e wn ⟨ra, rc, sa, sc, rfl, RA, SA, _, _, hb⟩; have BW := pstep BW hb; have HA := Lib.hid (HA.out.step hb); have HO1 := Lib.hid (HO1.out.step hb); have HO2 := Lib.hid (HO2.out.step hb); have HX := Lib.hid RA; have HS := Lib.hid SA; clear hb RA SA)
    | (go_at_call 21; (with_reducible refine (concat_PinOp _ _ oa1 oa2 n1 n2 oc1 oc2 _ _ (Lib.hid (heap_alloc_new _ _)) HN1 HN2 (Lib.hid (ops_at (HO1.out.step (below_alloc _ _)))) (Lib.hid (ops_at (HO2.out.step (below_alloc _ _)))) hn1 hn2 N HNN).mono ?_); rintro e wn ⟨ka, kc, rfl, KA, hb⟩; have hb := (below_alloc _ _).trans (hb.mono (below_alloc _ _).size); have BW := pstep BW hb; have HA := Lib.hid (HA.out.step hb); have HS := Lib.hid (HS.out.step hb); have HY := Lib.hid (HY.out.step hb); have HT := Lib.hid (HT.out.step hb); have KO := ops_from KA; rw [← HL.out, HLL.out] at KO; have KO := Lib.hid KO; clear KA; clear hb)
    | (go_at_call 14; (with_reducible refine (equalP_N _ HLY HZ.out HY.out hlen).mono ?_); rintro e wn ⟨rfl, hb⟩; have BW := pstep BW hb; have HS := Lib.hid (HS.out.step hb); have HT := Lib.hid (HT.out.step hb); have HU := Lib.hid (HU.out.step hb); clear hb)
    | (go_at_call 22; (with_reducible refine (concat_Sent s t sa ta s.length t.length sc tc _ _ (Lib.hid (heap_alloc_new _ _)) (Lib.hid rfl) (Lib.hid rfl) (Lib.hid (sents_at (HS.out.step (below_alloc _ _)))) (Lib.hid (sents_at (HT.out.step (below_alloc _ _)))) hs1 ht1 u.length HUL).mono ?_); rintro e wn ⟨ka, kc, rfl, KA, hb⟩; have hb := (below_alloc _ _).trans (hb.mono (below_alloc _ _).size); have BW := pstep BW hb; have HU := Lib.hid (HU.out.step hb); have KS := sents_from KA; rw [← HUE.out] at KS; have KS := Lib.hid KS; clear KA; clear hb)
    | (go_at_call 15; (with_reducible refine (equalS_U _ HU.out KS.out hu63).mono ?_); rintro e wn ⟨rfl, hb⟩; have BW := pstep BW hb; clear hb)
    | fail)
  go_ret
  exact ⟨rfl, BW⟩
theorem lineParts_walk (v u1 u2 : Value) (w : World) (h : ArgPins w v) (h1 : ArgOps w u1) (h2 : ArgOps w u2) (_ : lenOf v ≤ 1048576) (b1 : lenOf u1 ≤ 1048576) (b2 : lenOf u2 ≤ 1048576) :
    Calls Try.prog 9 #[v, u1, u2] w fun e w' => e = .returned (.bool true) ∧ Below w.heap.size w w' := by
  obtain ⟨ad, cap, l, rfl, hlen, HA⟩ := h
  obtain ⟨oa1, n1, oc1, K1, P1, rfl, _, HO1⟩ := h1
  obtain ⟨oa2, n2, oc2, K2, P2, rfl, _, HO2⟩ := h2
  by_cases hr : pinsOk l = true
  · exact lineParts_ok ad oa1 oa2 cap oc1 oc2 n1 n2 l K1 P1 K2 P2 w (Lib.hid HA) (Lib.hid HO1) (Lib.hid HO2) hlen b1 b2 hr
  · exact lineParts_bad ad oa1 oa2 cap oc1 oc2 n1 n2 l K1 P1 K2 P2 w (Lib.hid HA) (Lib.hid HO1) (Lib.hid HO2) hlen b1 b2 (by simpa using hr)
end Go.Proofs.Ytkmjbompbkbfaaa
