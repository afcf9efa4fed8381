/- The walk of LineMask. -/
import Derived.Test.YtmldedkmmhnihaaLinS
import Derived.Test.YtmldedkmmhnihaaPinO
import Derived.Test.YtmldedkmmhnihaaLinT
import Derived.Test.YtmldedkmmhnihaaIns
namespace Go.Proofs.Ytmldedkmmhnihaa
open Go.ChangeShapes Go.WideShapes Go.ChangeAt Go.RowKit Go.Deep

/-- A slice is no longer than it has room. -/
def CapOk : Value → Prop
  | .slice _ n c => n ≤ c ∧ c ≤ 9223372036854775807
  | _ => True
theorem cap_of {H : Type} {enc : TypeId × Value → H} {W : World} {base : Nat} {v : Value} {dt : DataW H} {p : List MemPlace} (hv : Value.okWide Try.prog W .any base 23 v) (h : DataW.Trod enc Try.prog W 0 (fun _ => true) true 23 v dt p) : CapOk v := by
  obtain ⟨ad, len, cap, rfl⟩ := okWide_slice Try.underlying23 hv
  obtain ⟨fuel, hf⟩ := h
  rcases open_slice_pairs Try.underlying23 Try.underlying41 cellsPinOp rfl rfl cellsIntP cellsIntP hf with ⟨hc, _⟩ | ⟨a, l, c, m, k, V0, V1, D0, D1, P0, P1, hc, _, hl, hm, _⟩
  · simp only [Value.cells, List.cons.injEq, and_true, Value.slice.injEq] at hc
    obtain ⟨rfl, rfl, rfl⟩ := hc
    exact ⟨Nat.le_refl _, by decide⟩
  · simp only [Value.cells, List.cons.injEq, and_true, Value.slice.injEq] at hc
    obtain ⟨rfl, rfl, rfl⟩ := hc
    unfold maxLen at hm
    exact ⟨hl, by omega⟩
theorem pin_mask (p : PinT) (hok : p.ok = true) (hm : p.masked = false) : pinStep p 3 = ({ p with masked := true }, false) ∧ pinStep { p with masked := true } 4 = (p, false) := by
  obtain ⟨c, v, l, m, u, k, s⟩ := p
  simp only at hm
  subst hm
  unfold PinT.ok at hok
  have h2 := (Bool.and_eq_true_iff.1 hok).2
  cases l <;> cases u <;> cases k <;> cases s <;> simp at h2 <;> exact ⟨rfl, rfl⟩
/-- Masked and unmasked again, an unmasked line is as it was, and nothing is sent. -/
theorem mask_again (st : List PinT × List SentT) (r : Nat) (hr : r < st.1.length) (hok : pinsOk st.1 = true) (hm : (st.1.getD r pin0).masked = false) : runL st [(3, (r : Int)), (4, (r : Int))] = st := by
  obtain ⟨out, ss⟩ := st
  simp only at hr hok hm
  obtain ⟨p, hp⟩ : ∃ p, out.getD r pin0 = p := ⟨_, rfl⟩
  have hpo : p.ok = true := by rw [← hp]; exact pins_each hok r hr
  rw [hp] at hm
  obtain ⟨h3, h4⟩ := pin_mask p hpo hm
  show playStep (playStep (out, ss) 3 r) 4 r = _
  have e1 : playStep (out, ss) 3 r = (out.set r { p with masked := true }, ss) := by
    unfold playStep
    rw [if_pos ⟨by decide, by decide, by omega, by simpa using hr⟩, Int.toNat_natCast]
    simp only [hp, h3]
    rfl
  rw [e1]
  unfold playStep
  rw [if_pos ⟨by decide, by decide, by omega, by simpa using hr⟩, Int.toNat_natCast]
  simp only [get_set _ hr, h4, List.set_set]
  have e2 : out.set r p = out := by
    rw [← hp, List.getD_eq_getElem?_getD, List.getElem?_eq_getElem hr]
    simp
  rw [e2]
  rfl
theorem play_mask {l : List PinT} (hl : pinsOk l = true) (K P : Nat → Int) (n k r : Nat) (hk : k ≤ n) (hr : r < l.length) (m : List PinT) (u : List SentT) (hm : playTo l K P k = (m, u)) (h0 : (m.getD r pin0).masked = false) :
    playTo l (kOf ((opsOf K P n).take k ++ [(3, (r : Int)), (4, (r : Int))] ++ (opsOf K P n).drop k)) (nOf ((opsOf K P n).take k ++ [(3, (r : Int)), (4, (r : Int))] ++ (opsOf K P n).drop k)) ((opsOf K P n).take k ++ [(3, (r : Int)), (4, (r : Int))] ++ (opsOf K P n).drop k).length = playTo l K P n := by
  have e0 : (opsOf K P n).take k = opsOf K P k := by
    unfold opsOf
    rw [← List.map_take, List.take_range, Nat.min_eq_left hk]
  have e1 : runL (l, []) ((opsOf K P n).take k) = (m, u) := by rw [e0, runL_opsOf, ← playTo_plF, hm]
  have hmk := playTo_ok hl K P k
  have hml := (playTo_len l K P k).1
  rw [hm] at hmk hml
  rw [playTo_plF, playTo_plF]
  show runL (l, []) _ = _
  rw [runL_app, runL_app, e1, mask_again (m, u) r (by rw [hml]; exact hr) hmk h0, ← e1, ← runL_app, List.take_append_drop, runL_opsOf]
theorem insert_ops4 (xs : List (Int × Int)) (x0 y0 x1 y1 : Int) (n c k vb : Nat) (W w : World) (sa : Option Addr) (HB : Hid (Below W.heap.size W w)) (HV : Hid (w.heap[vb]? = some (.cells #[.int .i64 x0, .int .i64 y0, .int .i64 x1, .int .i64 y1] 41 (0, 0)))) (H1 : Hid (xs.length = n)) (hn : n ≤ 8796093021952) (HO : Hid (w.ownsRow W.heap.size 41 2 (.slice sa n c) n (opShape.flat xs))) (hk : k ≤ n) (hvb : Hid (∀ g, (Value.slice sa n c).ownBlock = some g → vb ≠ g)) :
    Calls Try.prog 14 #[.slice sa n c, .int .i64 (k : Int), .slice (some ⟨vb, 0, none⟩) 2 2] w fun e w' => ∃ ra rc, e = .returned (.slice ra (n + 2) rc) ∧ opShape.At w' ra rc (xs.take k ++ [(x0, y0), (x1, y1)] ++ xs.drop k) ∧ Below W.heap.size W w' :=
  insert_ops xs (x0, y0) (x1, y1) n c k vb W w sa HB HV H1 hn HO hk hvb.out
theorem row_apart {W w : World} {T n c : Nat} {sa : Option Addr} {xs : List Value} (h : w.ownsRow W.heap.size T 2 (.slice sa n c) n xs) : ∀ g, (Value.slice sa n c).ownBlock = some g → w.heap.size ≠ g := fun g hg => by
  have := (h.lt g hg).2
  omega
set_option maxHeartbeats 4000000 in
set_option maxRecDepth 100000 in
theorem lineMask_bad (ad oad : Option Addr) (cap ocap n : Nat) (l : List PinT) (x y : Int) (w : World) (HA : Hid (PinsAt w ad cap l)) (hlen : l.length ≤ 9223372036854775807) (hr : pinsOk l = false) :
    Calls Try.prog 4 #[.slice ad l.length cap, .slice oad n ocap, .int .i64 x, .int .i64 y] w fun e w' => e = .returned (.bool true) ∧ Below w.heap.size w w' := by
  go_enter Try.func4, Try.ntmps4
  go_wp2_with (first
    | (go_at_call 12; (with_reducible refine (alive3_R _).mono ?_); rintro e w1 ⟨rfl, hb⟩; have B1 := pstep (Below.refl _ _) hb; have S1 := B1.size; clear hb)
    | (go_at_call 13; (with_reducible refine (right_U _ (HA.out.step B1) hlen false hr).mono ?_); rintro e w2 ⟨rfl, hb⟩; have B2 := pstep B1 hb; have S2 := B2.size; clear hb)
    | fail)
  go_ret
  exact ⟨rfl, B2⟩
set_option maxHeartbeats 4000000 in
set_option maxRecDepth 100000 in
theorem lineMask_neg (ad oad : Option Addr) (cap ocap n : Nat) (l : List PinT) (x y : Int) (w : World) (HA : Hid (PinsAt w ad cap l)) (hlen : l.length ≤ 9223372036854775807) (hr : pinsOk l = true) (hx : x < 0) :
    Calls Try.prog 4 #[.slice ad l.length cap, .slice oad n ocap, .int .i64 x, .int .i64 y] w fun e w' => e = .returned (.bool true) ∧ Below w.heap.size w w' := by
  have d1 : decide (x < 0) = true := by simpa using hx
  go_enter Try.func4, Try.ntmps4
  go_wp2_with (first
    | (go_at_call 12; (with_reducible refine (alive3_R _).mono ?_); rintro e w1 ⟨rfl, hb⟩; have B1 := pstep (Below.refl _ _) hb; have S1 := B1.size; clear hb)
    | (go_at_call 13; (with_reducible refine (right_U _ (HA.out.step B1) hlen true hr).mono ?_); rintro e w2 ⟨rfl, hb⟩; have B2 := pstep B1 hb; have S2 := B2.size; clear hb)
    | fail)
  go_ret
  exact ⟨rfl, B2⟩
set_option maxHeartbeats 4000000 in
set_option maxRecDepth 100000 in
theorem lineMask_past (ad oad : Option Addr) (cap ocap n : Nat) (l : List PinT) (x y : Int) (w : World) (HA : Hid (PinsAt w ad cap l)) (hlen : l.length ≤ 9223372036854775807) (hr : pinsOk l = true) (h0 : 0 ≤ x) (hx : (l.length : Int) ≤ x) :
    Calls Try.prog 4 #[.slice ad l.length cap, .slice oad n ocap, .int .i64 x, .int .i64 y] w fun e w' => e = .returned (.bool true) ∧ Below w.heap.size w w' := by
  have d1 : decide (x < 0) = false := by simp; omega
  have d2 : decide ((l.length : Int) ≤ x) = true := by simpa using hx
  go_enter Try.func4, Try.ntmps4
  go_wp2_with (first
    | (go_at_call 12; (with_reducible refine (alive3_R _).mono ?_); rintro e w1 ⟨rfl, hb⟩; have B1 := pstep (Below.refl _ _) hb; have S1 := B1.size; clear hb)
    | (go_at_call 13; (with_reducible refine (right_U _ (HA.out.step B1) hlen true hr).mono ?_); rintro e w2 ⟨rfl, hb⟩; have B2 := pstep B1 hb; have S2 := B2.size; clear hb)
    | fail)
  go_ret
  exact ⟨rfl, B2⟩
set_option maxHeartbeats 4000000 in
set_option maxRecDepth 100000 in
theorem lineMask_atneg (ad oad : Option Addr) (cap ocap n : Nat) (l : List PinT) (r : Nat) (y : Int) (w : World) (HA : Hid (PinsAt w ad cap l)) (hlen : l.length ≤ 9223372036854775807) (hr : pinsOk l = true) (hx : r < l.length) (hy : y < 0) :
    Calls Try.prog 4 #[.slice ad l.length cap, .slice oad n ocap, .int .i64 (r : Int), .int .i64 y] w fun e w' => e = .returned (.bool true) ∧ Below w.heap.size w w' := by
  have d1 : decide ((r : Int) < 0) = false := by simp
  have d2 : decide ((l.length : Int) ≤ (r : Int)) = false := by simp; omega
  have d3 : decide (l.length ≤ r) = false := by simp; omega
  have d4 : decide (y < 0) = true := by simpa using hy
  go_enter Try.func4, Try.ntmps4
  go_wp2_with (first
    | (go_at_call 12; (with_reducible refine (alive3_R _).mono ?_); rintro e w1 ⟨rfl, hb⟩; have B1 := pstep (Below.refl _ _) hb; have S1 := B1.size; clear hb)
    | (go_at_call 13; (with_reducible refine (right_U _ (HA.out.step B1) hlen true hr).mono ?_); rintro e w2 ⟨rfl, hb⟩; have B2 := pstep B1 hb; have S2 := B2.size; clear hb)
    | fail)
  go_ret
  exact ⟨rfl, B2⟩
set_option maxHeartbeats 4000000 in
set_option maxRecDepth 100000 in
theorem lineMask_atpast (ad oad : Option Addr) (cap ocap n : Nat) (l : List PinT) (r : Nat) (y : Int) (w : World) (HA : Hid (PinsAt w ad cap l)) (hlen : l.length ≤ 9223372036854775807) (hr : pinsOk l = true) (hx : r < l.length) (h0 : 0 ≤ y) (hy : (n : Int) < y) :
    Calls Try.prog 4 #[.slice ad l.length cap, .slice oad n ocap, .int .i64 (r : Int), .int .i64 y] w fun e w' => e = .returned (.bool true) ∧ Below w.heap.size w w' := by
  have d1 : decide ((r : Int) < 0) = false := by simp
  have d2 : decide ((l.length : Int) ≤ (r : Int)) = false := by simp; omega
  have d3 : decide (l.length ≤ r) = false := by simp; omega
  have d4 : decide (y < 0) = false := by simp; omega
  have d5 : decide ((n : Int) < y) = true := by simpa using hy
  go_enter Try.func4, Try.ntmps4
  go_wp2_with (first
    | (go_at_call 12; (with_reducible refine (alive3_R _).mono ?_); rintro e w1 ⟨rfl, hb⟩; have B1 := pstep (Below.refl _ _) hb; have S1 := B1.size; clear hb)
    | (go_at_call 13; (with_reducible refine (right_U _ (HA.out.step B1) hlen true hr).mono ?_); rintro e w2 ⟨rfl, hb⟩; have B2 := pstep B1 hb; have S2 := B2.size; clear hb)
    | fail)
  go_ret
  exact ⟨rfl, B2⟩
theorem ops_first {w : World} {ad : Option Addr} {cap n k : Nat} {K P : Nat → Int} (h : OpsAt w ad cap K P n) (hk : k ≤ n) : OpsAt w ad cap K P k :=
  ⟨fun e => ⟨(h.1 e).1, by have := (h.1 e).2; omega⟩, fun h0 => by
    obtain ⟨b, off, e, hb, hl⟩ := h.2 (by omega)
    exact ⟨b, off, e, hb, fun i hi => hl i (by omega)⟩⟩
set_option maxHeartbeats 4000000 in
set_option maxRecDepth 100000 in
theorem lineMask_masked (ad oad : Option Addr) (cap ocap n : Nat) (l : List PinT) (K P : Nat → Int) (r k : Nat) (w : World) (HA : Hid (PinsAt w ad cap l)) (hlen : l.length ≤ 9223372036854775807) (hn : n ≤ 8796093021952) (HO : Hid (OpsAt w oad ocap K P n)) (hcap : n ≤ ocap) (hr : pinsOk l = true) (hx : r < l.length) (hk : k ≤ n) (m a b : List PinT) (um s t : List SentT) (Hm : Hid (playTo l K P k = (m, um))) (hmm : (m.getD r pin0).masked = true) (Ha : Hid (playTo l K P n = (a, s))) (L : List (Int × Int)) (HL : Hid (L = (opsOf K P n).take k ++ [(3, (r : Int)), (4, (r : Int))] ++ (opsOf K P n).drop k)) (Hb : Hid (playTo l (kOf L) (nOf L) (n + 2) = (b, t))) :
    Calls Try.prog 4 #[.slice ad l.length cap, .slice oad n ocap, .int .i64 (r : Int), .int .i64 (k : Int)] w fun e w' => e = .returned (.bool true) ∧ Below w.heap.size w w' := by
  have d1 : decide ((r : Int) < 0) = false := by simp
  have d2 : decide ((l.length : Int) ≤ (r : Int)) = false := by simp; omega
  have d3 : decide (l.length ≤ r) = false := by simp; omega
  have d4 : decide ((k : Int) < 0) = false := by simp
  have d5 : decide ((n : Int) < (k : Int)) = false := by simp; omega
  have d6 : decide (n < k) = false := by simp; omega
  have h24 := pins_24 hr
  have hr63 : r ≤ 9223372036854775807 := by omega
  have hn1 : n ≤ 8796093022208 := by omega
  have hk1 : k ≤ 8796093022208 := by omega
  have hn2 : n + 2 ≤ 8796093022208 := by omega
  have hko : k ≤ ocap := by omega
  have HXL : Hid ((opsOf K P n).length = n) := Lib.hid (opsOf_len K P n)
  have HLL : Hid (L.length = n + 2) := Lib.hid (by rw [HL.out]; simp [opsOf_len]; omega)
  have hma := (playTo_len l K P k).1
  have haa := playTo_len l K P n
  rw [Hm.out] at hma
  rw [Ha.out] at haa
  have HMA := Lib.hid hma
  have HAA : Hid (a.length = l.length) := Lib.hid haa.1
  have hs63 : s.length ≤ 9223372036854775807 := Nat.le_trans haa.2 (by omega)
  have BW := Below.refl w.heap.size w
  clear hma haa
  go_enter Try.func4, Try.ntmps4
  go_wp2_with (first
    | (go_at_call 12; (with_reducible refine (alive3_R _).mono ?_); rintro e w1 ⟨rfl, hb⟩; have BW := pstep BW hb; have HA := Lib.hid (HA.out.step hb); have HO := Lib.hid (HO.out.step hb); clear hb)
    | (go_at_call 13; (with_reducible refine (right_U _ HA.out hlen true hr).mono ?_); rintro e w2 ⟨rfl, hb⟩; have BW := pstep BW hb; have HA := Lib.hid (HA.out.step hb); have HO := Lib.hid (HO.out.step hb); clear hb)
    | (go_at_call 15; (with_reducible refine (clone_ops _ _ _ _ _ HXL (Lib.hid (ops_at HO.out)) hn).mono ?_); rintro e w3 ⟨ca, cc, rfl, hown, hb⟩; have HOW := Lib.hid hown; have HB3 := Lib.hid hb; clear hown hb)
    | (go_at_call 14; (with_reducible refine (insert_ops4 _ _ _ _ _ _ _ _ _ w2 _ _ (Lib.hid (HB3.out.alloc HB3.out.size _)) (Lib.hid (heap_alloc_new _ _)) HXL hn (Lib.hid (HOW.out.alloc _)) hk (Lib.hid (row_apart HOW.out))).mono ?_); rintro e w4 ⟨ka, kc, rfl, KA, hb⟩; have BW := pstep BW hb; have HA := Lib.hid (HA.out.step hb); have HO := Lib.hid (HO.out.step hb); have KO := ops_from KA; rw [← HL.out, HLL.out] at KO; have HKO := Lib.hid KO; clear KA KO hb)
    | (go_at_call 7; (with_reducible refine (play_U _ HA (Lib.hid (ops_first HO.out hk)) hr hk1 m um Hm l.length (Lib.hid rfl)).mono ?_); rintro e wn ⟨m1, m2, u1, u2, rfl, RA, SA, _, _, hb⟩; have BW := pstep BW hb; have HRA := Lib.hid (HRA.out.step hb); have HSA := Lib.hid (HSA.out.step hb); have HRB := Lib.hid (HRB.out.step hb); have HSB := Lib.hid (HSB.out.step hb); obtain ⟨mb, moff, rfl, hmb, LM⟩ := RA.2 (by rw [HMA.out]; omega); have zm := LM r (by rw [HMA.out]; exact hx) 3 (by decide); rw [show pinCell (m.getD r pin0) 3 = .bool (m.getD r pin0).masked from rfl, hmm] at zm; clear hb RA SA LM)
    | (go_at_call 7; (with_reducible refine (play_U _ HA HKO hr hn2 b t Hb l.length (Lib.hid rfl)).mono ?_); rintro e wn ⟨b1, b2, t1, t2, rfl, RA, SA, _, _, hb⟩; have BW := pstep BW hb; have HA := Lib.hid (HA.out.step hb); have HO := Lib.hid (HO.out.step hb); have HRA := Lib.hid (HRA.out.step hb); have HSA := Lib.hid (HSA.out.step hb); have HRB := Lib.hid RA; have HSB := Lib.hid SA; clear hb RA SA)
    | (go_at_call 7; (with_reducible refine (play_U _ HA HO hr hn1 a s Ha l.length (Lib.hid rfl)).mono ?_); rintro e wn ⟨a1, a2, s1, s2, rfl, RA, SA, _, _, hb⟩; have BW := pstep BW hb; have HA := Lib.hid (HA.out.step hb); have HO := Lib.hid (HO.out.step hb); have HKO := Lib.hid (HKO.out.step hb); have HRA := Lib.hid RA; have HSA := Lib.hid SA; clear hb RA SA)
    | fail)
  go_ret
  exact ⟨rfl, BW⟩
set_option maxHeartbeats 4000000 in
set_option maxRecDepth 100000 in
theorem lineMask_open (ad oad : Option Addr) (cap ocap n : Nat) (l : List PinT) (K P : Nat → Int) (r k : Nat) (w : World) (HA : Hid (PinsAt w ad cap l)) (hlen : l.length ≤ 9223372036854775807) (hn : n ≤ 8796093021952) (HO : Hid (OpsAt w oad ocap K P n)) (hcap : n ≤ ocap) (hr : pinsOk l = true) (hx : r < l.length) (hk : k ≤ n) (m a b : List PinT) (um s t : List SentT) (Hm : Hid (playTo l K P k = (m, um))) (hmm : (m.getD r pin0).masked = false) (Ha : Hid (playTo l K P n = (a, s))) (L : List (Int × Int)) (HL : Hid (L = (opsOf K P n).take k ++ [(3, (r : Int)), (4, (r : Int))] ++ (opsOf K P n).drop k)) (Hb : Hid (playTo l (kOf L) (nOf L) (n + 2) = (b, t))) (Hba : Hid (b = a ∧ t = s)) :
    Calls Try.prog 4 #[.slice ad l.length cap, .slice oad n ocap, .int .i64 (r : Int), .int .i64 (k : Int)] w fun e w' => e = .returned (.bool true) ∧ Below w.heap.size w w' := by
  have d1 : decide ((r : Int) < 0) = false := by simp
  have d2 : decide ((l.length : Int) ≤ (r : Int)) = false := by simp; omega
  have d3 : decide (l.length ≤ r) = false := by simp; omega
  have d4 : decide ((k : Int) < 0) = false := by simp
  have d5 : decide ((n : Int) < (k : Int)) = false := by simp; omega
  have d6 : decide (n < k) = false := by simp; omega
  have h24 := pins_24 hr
  have hr63 : r ≤ 9223372036854775807 := by omega
  have hn1 : n ≤ 8796093022208 := by omega
  have hk1 : k ≤ 8796093022208 := by omega
  have hn2 : n + 2 ≤ 8796093022208 := by omega
  have hko : k ≤ ocap := by omega
  have HXL : Hid ((opsOf K P n).length = n) := Lib.hid (opsOf_len K P n)
  have HLL : Hid (L.length = n + 2) := Lib.hid (by rw [HL.out]; simp [opsOf_len]; omega)
  have hma := (playTo_len l K P k).1
  have haa := playTo_len l K P n
  rw [Hm.out] at hma
  rw [Ha.out] at haa
  have HMA := Lib.hid hma
  have HAA : Hid (a.length = l.length) := Lib.hid haa.1
  have hs63 : s.length ≤ 9223372036854775807 := Nat.le_trans haa.2 (by omega)
  have BW := Below.refl w.heap.size w
  clear hma haa
  go_enter Try.func4, Try.ntmps4
  go_wp2_with (first
    | (go_at_call 12; (with_reducible refine (alive3_R _).mono ?_); rintro e w1 ⟨rfl, hb⟩; have BW := pstep BW hb; have HA := Lib.hid (HA.out.step hb); have HO := Lib.hid (HO.out.step hb); clear hb)
    | (go_at_call 13; (with_reducible refine (right_U _ HA.out hlen true hr).mono ?_); rintro e w2 ⟨rfl, hb⟩; have BW := pstep BW hb; have HA := Lib.hid (HA.out.step hb); have HO := Lib.hid (HO.out.step hb); clear hb)
    | (go_at_call 15; (with_reducible refine (clone_ops _ _ _ _ _ HXL (Lib.hid (ops_at HO.out)) hn).mono ?_); rintro e w3 ⟨ca, cc, rfl, hown, hb⟩; have HOW := Lib.hid hown; have HB3 := Lib.hid hb; clear hown hb)
    | (go_at_call 14; (with_reducible refine (insert_ops4 _ _ _ _ _ _ _ _ _ w2 _ _ (Lib.hid (HB3.out.alloc HB3.out.size _)) (Lib.hid (heap_alloc_new _ _)) HXL hn (Lib.hid (HOW.out.alloc _)) hk (Lib.hid (row_apart HOW.out))).mono ?_); rintro e w4 ⟨ka, kc, rfl, KA, hb⟩; have BW := pstep BW hb; have HA := Lib.hid (HA.out.step hb); have HO := Lib.hid (HO.out.step hb); have KO := ops_from KA; rw [← HL.out, HLL.out] at KO; have HKO := Lib.hid KO; clear KA KO hb)
    | (go_at_call 7; (with_reducible refine (play_U _ HA (Lib.hid (ops_first HO.out hk)) hr hk1 m um Hm l.length (Lib.hid rfl)).mono ?_); rintro e wn ⟨m1, m2, u1, u2, rfl, RA, SA, _, _, hb⟩; have BW := pstep BW hb; have HRA := Lib.hid (HRA.out.step hb); have HSA := Lib.hid (HSA.out.step hb); have HRB := Lib.hid (HRB.out.step hb); have HSB := Lib.hid (HSB.out.step hb); obtain ⟨mb, moff, rfl, hmb, LM⟩ := RA.2 (by rw [HMA.out]; omega); have zm := LM r (by rw [HMA.out]; exact hx) 3 (by decide); rw [show pinCell (m.getD r pin0) 3 = .bool (m.getD r pin0).masked from rfl, hmm] at zm; clear hb RA SA LM)
    | (go_at_call 7; (with_reducible refine (play_U _ HA HKO hr hn2 b t Hb l.length (Lib.hid rfl)).mono ?_); rintro e wn ⟨b1, b2, t1, t2, rfl, RA, SA, _, _, hb⟩; have BW := pstep BW hb; have HA := Lib.hid (HA.out.step hb); have HO := Lib.hid (HO.out.step hb); have HRA := Lib.hid (HRA.out.step hb); have HSA := Lib.hid (HSA.out.step hb); rw [Hba.out.1] at RA; rw [Hba.out.2] at SA ⊢; have HRB := Lib.hid RA; have HSB := Lib.hid SA; clear hb RA SA)
    | (go_at_call 7; (with_reducible refine (play_U _ HA HO hr hn1 a s Ha l.length (Lib.hid rfl)).mono ?_); rintro e wn ⟨a1, a2, s1, s2, rfl, RA, SA, _, _, hb⟩; have BW := pstep BW hb; have HA := Lib.hid (HA.out.step hb); have HO := Lib.hid (HO.out.step hb); have HKO := Lib.hid (HKO.out.step hb); have HRA := Lib.hid RA; have HSA := Lib.hid SA; clear hb RA SA)
    | (go_at_call 10; (with_reducible refine (equalP_N _ HAA HRA.out HRB.out hlen).mono ?_); rintro e wn ⟨rfl, hb⟩; have BW := pstep BW hb; have HSA := Lib.hid (HSA.out.step hb); have HSB := Lib.hid (HSB.out.step hb); clear hb)
    | (go_at_call 11; (with_reducible refine (equalS_U _ HSA.out HSB.out hs63).mono ?_); rintro e wn ⟨rfl, hb⟩; have BW := pstep BW hb; clear hb)
    | fail)
  go_ret
  exact ⟨rfl, BW⟩
theorem lineMask_any (v u : Value) (x y : Int) (w : World) (h : ArgPins w v) (h2 : ArgOps w u) (hu : lenOf u ≤ 8796093021952) (hc : CapOk u) :
    Calls Try.prog 4 #[v, u, .int .i64 x, .int .i64 y] w fun e w' => e = .returned (.bool true) ∧ Below w.heap.size w w' := by
  obtain ⟨ad, cap, l, rfl, hlen, HA⟩ := h
  obtain ⟨oad, n, ocap, K, P, rfl, _, HO⟩ := h2
  have HA' := Lib.hid HA
  have hn : n ≤ 8796093021952 := hu
  obtain ⟨hcap, _⟩ : n ≤ ocap ∧ ocap ≤ 9223372036854775807 := hc
  by_cases hr : pinsOk l = true
  · by_cases h0 : x < 0
    · exact lineMask_neg ad oad cap ocap n l x y w HA' hlen hr h0
    · by_cases h1 : (l.length : Int) ≤ x
      · exact lineMask_past ad oad cap ocap n l x y w HA' hlen hr (by omega) h1
      · obtain ⟨r, rfl⟩ : ∃ r : Nat, x = r := ⟨x.toNat, by omega⟩
        by_cases h2 : y < 0
        · exact lineMask_atneg ad oad cap ocap n l r y w HA' hlen hr (by omega) h2
        · by_cases h3 : (n : Int) < y
          · exact lineMask_atpast ad oad cap ocap n l r y w HA' hlen hr (by omega) (by omega) h3
          · obtain ⟨k, rfl⟩ : ∃ k : Nat, y = k := ⟨y.toNat, by omega⟩
            obtain ⟨⟨m, um⟩, hm⟩ : ∃ st, playTo l K P k = st := ⟨_, rfl⟩
            obtain ⟨⟨a, s⟩, ha⟩ : ∃ st, playTo l K P n = st := ⟨_, rfl⟩
            obtain ⟨L, hL⟩ : ∃ L, L = (opsOf K P n).take k ++ [(3, (r : Int)), (4, (r : Int))] ++ (opsOf K P n).drop k := ⟨_, rfl⟩
            have hLl : L.length = n + 2 := by rw [hL]; simp [opsOf_len]; omega
            obtain ⟨⟨b, t⟩, hb⟩ : ∃ st, playTo l (kOf L) (nOf L) (n + 2) = st := ⟨_, rfl⟩
            by_cases hmm : (m.getD r pin0).masked = true
            · exact lineMask_masked ad oad cap ocap n l K P r k w HA' hlen hn (Lib.hid HO) hcap hr (by omega) (by omega) m a b um s t (Lib.hid hm) hmm (Lib.hid ha) L (Lib.hid hL) (Lib.hid hb)
            · have hmf : (m.getD r pin0).masked = false := by simpa using hmm
              have e := play_mask hr K P n k r (by omega) (by omega) m um hm hmf
              rw [← hL, hLl, hb, ha] at e
              simp only [Prod.mk.injEq] at e
              exact lineMask_open ad oad cap ocap n l K P r k w HA' hlen hn (Lib.hid HO) hcap hr (by omega) (by omega) m a b um s t (Lib.hid hm) hmf (Lib.hid ha) L (Lib.hid hL) (Lib.hid hb) (Lib.hid e)
  · exact lineMask_bad ad oad cap ocap n l x y w HA' hlen (by simpa using hr)
end Go.Proofs.Ytmldedkmmhnihaa
