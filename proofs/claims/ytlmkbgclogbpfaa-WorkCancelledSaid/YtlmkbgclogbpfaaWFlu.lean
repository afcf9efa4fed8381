/- WorkFlushed: behind a flush it is done, and nothing else was begun that did not stand ahead of it. -/
import Derived.Test.YtlmkbgclogbpfaaWOnce
namespace Go.Proofs.Ytlmkbgclogbpfaa
open Go.RowKit

section
variable {ad : Option Addr} {cap n : Nat} {ops : List WoT}
/-- Play at whatever came in: results that nobody looks at. -/
theorem play_any (hm : Hid (ops.length = n)) (hn : n ≤ 8796093021952) (X : World) (HX : Hid (shO.At X ad cap ops)) :
    Calls Try.prog 8 #[.slice ad n cap] X fun e w' => ∃ v0 v1 v2 c u, e = .returned (.tuple #[v0, v1, v2, .int .i64 c, .int .i64 u]) ∧ (u = 0 ∨ u = 2) ∧ Below X.heap.size X w' := by
  by_cases h : 400 < n
  · refine (play_bad ad cap n X h (by omega)).mono ?_
    rintro e w' ⟨rfl, rfl⟩
    exact ⟨_, _, _, _, _, rfl, Or.inr rfl, Below.refl _ _⟩
  · refine (play_ok X HX hm (by omega)).mono ?_
    rintro e w' ⟨E, da, dc, wa, wc, rfl, _, _, _, _, _, hb⟩
    exact ⟨_, _, _, _, _, rfl, Or.inl rfl, hb⟩
theorem play_res (hm : Hid (ops.length = n)) (hn : n ≤ 400) {es : List Int} {s : StO} (he : Hid (errsO newO ops = es)) (hs : Hid (runO newO ops = s)) (ad : Option Addr) (cap : Nat) (X : World) (HX : Hid (shO.At X ad cap ops)) :
    Calls Try.prog 8 #[.slice ad n cap] X (PlayOut X n es s) := by
  rw [← he.out, ← hs.out]
  exact play_ok X HX hm hn
set_option maxHeartbeats 4000000 in
set_option maxRecDepth 100000 in
theorem flu_big (id : Int) (w : World) (HA : Hid (shO.At w ad cap ops)) (hm : Hid (ops.length = n)) (hn : n ≤ 8796093021952) (hbig : 400 ≤ n) :
    Calls Try.prog 5 #[.slice ad n cap, .int .i64 id] w fun e w' => e = .returned (.bool true) ∧ Below w.heap.size w w' := by
  obtain ⟨i0, hi, hz0, hz1, hz2⟩ := info_parts info_wo
  have h401 : 400 < n + 1 := by omega
  have h63 : n + 1 ≤ 9223372036854775807 := by omega
  go_enter Try.func5, Try.ntmps5
  go_upto_region 5 with (first
    | (go_at_call 12; (with_reducible refine (alive12_N _).mono ?_); rintro e w1 ⟨rfl, hb⟩; have B1 := Lib.hid hb; have A1 := Lib.hid (HA.out.step hb); clear hb)
    | (go_at_call 8; (with_reducible refine (play_any hm hn _ A1).mono ?_); rintro e w2 ⟨v0, v1, v2, c2, u2, rfl, hu, hb⟩; have B2 := Lib.hid (pstep B1.out hb); have A2 := Lib.hid (A1.out.step hb); clear hb)
    | (go_at_call 14; (with_reducible refine (clone_W ops ad n cap _ hm A2 hn).mono ?_); rintro e w3 ⟨ra3, rc3, rfl, own, hb⟩; have bx := below_alloc w3 (.cells #[.int .i64 5, .int .i64 id] 33); have O3 := Lib.hid (own_step own bx); have B3 := Lib.hid (pstep (pstep B2.out hb) bx); have N3 := Lib.hid (wo_oneAt w3 ⟨5, id⟩ 1); have hs3 : w2.heap.size ≤ (w3.alloc (.cells #[.int .i64 5, .int .i64 id] 33)).heap.size := Nat.le_trans hb.size bx.size; clear hb own bx)
    | (at_builtin; refine wpList_append_n shO rfl _ _ 22 rfl w2.heap.size 33 i0 _ 16 Try.underlying22 hi hz0 hz1 hz2 rfl (.slice ra3 n rc3) n ops [⟨5, id⟩] hm rfl O3.out (some ⟨w3.heap.size, 0, none⟩) 1 1 rfl (Lib.hid rfl) N3.out (by unfold maxLen; omega) (by omega) hs3 ?_; intro ra4 rc4 w4 own4 grow4 _; have B4 := Lib.hid (B3.out.grown grow4 B3.out.size (fun _ hq => Nat.le_trans B2.out.size (own_lt O3.out hq).1)); clear own4 grow4)
    | (go_at_call 8; (with_reducible refine (play_bad ra4 rc4 (n + 1) _ h401 h63).mono ?_); rintro e w5 ⟨rfl, rfl⟩)
    | fail)
  rcases hu with rfl | rfl
  all_goals go_wp2_with fail
  all_goals go_ret
  all_goals exact ⟨rfl, B4.out⟩
theorem err5 {s t : StO} {id x : Int} (hx : errO s ⟨5, id⟩ = x) (ht : stepO s ⟨5, id⟩ = t) : (x ≠ 0 ∧ t = s) ∨ (x = 0 ∧ ¬ id = -1 ∧ t = flushO s id) := by
  unfold stepO at ht
  by_cases h : x = 0
  · subst h
    rw [if_pos hx] at ht
    have hr := (err_rng hx).2 (by simp) (by simp)
    simp only at hr
    exact Or.inr ⟨rfl, by omega, ht.symm⟩
  · rw [if_neg (by rw [hx]; exact h)] at ht
    exact Or.inl ⟨h, ht.symm⟩
set_option maxHeartbeats 4000000 in
set_option maxRecDepth 100000 in
theorem flu_ok (id : Int) (w : World) (HA : Hid (shO.At w ad cap ops)) (hm : Hid (ops.length = n)) (hn : n ≤ 399) :
    Calls Try.prog 5 #[.slice ad n cap, .int .i64 id] w fun e w' => e = .returned (.bool true) ∧ Below w.heap.size w w' := by
  obtain ⟨i0, hi, hz0, hz1, hz2⟩ := info_parts info_wo
  obtain ⟨s, hs⟩ : ∃ s, runO newO ops = s := ⟨_, rfl⟩
  obtain ⟨es, hes⟩ : ∃ es, errsO newO ops = es := ⟨_, rfl⟩
  obtain ⟨x, hx⟩ : ∃ x, errO s ⟨5, id⟩ = x := ⟨_, rfl⟩
  obtain ⟨t, ht⟩ : ∃ t, stepO s ⟨5, id⟩ = t := ⟨_, rfl⟩
  have hs2 : runO newO (ops ++ [⟨5, id⟩]) = t := by rw [runO_one, hs, ht]
  have hes2 : errsO newO (ops ++ [⟨5, id⟩]) = es ++ [x] := by rw [errsO_one, hs, hes, hx]
  have hm2 : (ops ++ [(⟨5, id⟩ : WoT)]).length = n + 1 := by rw [List.length_append, hm.out]; rfl
  have hel : es.length = n := by rw [← hes, errsO_len, hm.out]
  have HP1 := Lib.hid (fun X (HX : Hid (shO.At X ad cap ops)) => play_res hm (by omega) (Lib.hid hes) (Lib.hid hs) ad cap X HX)
  have HP2 := Lib.hid (fun (ra : Option Addr) (rc : Nat) X (HX : Hid (shO.At X ra rc (ops ++ [⟨5, id⟩]))) => play_res (Lib.hid hm2) (by omega) (Lib.hid hes2) (Lib.hid hs2) ra rc X HX)
  have hgs : GoodO s := by rw [← hs]; exact good_runO good_newO
  have hal : (allO s).length ≤ 400 ∧ (allO t).length ≤ 400 := by
    have h1 := all_len (ops := ops) good_newO
    have h2 := all_len (ops := ops ++ [⟨5, id⟩]) good_newO
    rw [hs, hm.out] at h1
    rw [hs2, hm2] at h2
    have e0 : (allO newO).length = 0 := rfl
    omega
  have hxe : (es ++ [x])[n]? = some x := by rw [List.getElem?_append_right (by omega), hel, Nat.sub_self]; rfl
  have HXE := Lib.hid hxe
  have H5 := Lib.hid (err5 hx ht)
  have HM2 := Lib.hid hm2
  have hn9 : n ≤ 8796093021952 := by omega
  have hnw : IntKind.i64.wrap ((n : Int) + 1) = (n : Int) + 1 := by rw [IntKind.wrap_i64]; omega
  clear hs hes hx ht hs2 hes2 hm2 hel hxe
  have hd1 := done_le s
  have hw1 := wait_le s
  have hd2 := done_le t
  have hw2 := wait_le t
  obtain ⟨d, c, l⟩ := s
  obtain ⟨d2, c2, l2⟩ := t
  simp only at hd1 hw1 hd2 hw2
  obtain ⟨dn, hdn⟩ : ∃ q, d.length = q := ⟨_, rfl⟩
  obtain ⟨wn, hwn⟩ : ∃ q, l.length = q := ⟨_, rfl⟩
  obtain ⟨dn2, hdn2⟩ : ∃ q, d2.length = q := ⟨_, rfl⟩
  obtain ⟨wn2, hwn2⟩ : ∃ q, l2.length = q := ⟨_, rfl⟩
  unfold PlayOut at HP1 HP2
  simp only [hdn, hwn, hdn2, hwn2] at HP1 HP2
  rw [hdn] at hd1
  rw [hwn] at hw1
  rw [hdn2] at hd2
  rw [hwn2] at hw2
  have HDL := Lib.hid hdn
  have HWL := Lib.hid hwn
  have HDL2 := Lib.hid hdn2
  have HWL2 := Lib.hid hwn2
  have hdb : dn ≤ 9223372036854775807 := by omega
  have hwb : wn ≤ 9223372036854775807 := by omega
  have hdb2 : dn2 ≤ 9223372036854775807 := by omega
  have hwb2 : wn2 ≤ 9223372036854775807 := by omega
  clear hdn hwn hdn2 hwn2 hal
  go_enter Try.func5, Try.ntmps5
  go_upto_region 5 with (first
    | (go_at_call 12; (with_reducible refine (alive12_N _).mono ?_); rintro e w1 ⟨rfl, hb⟩; have B1 := Lib.hid hb; have A1 := Lib.hid (HA.out.step hb); clear hb)
    | (go_at_call 8; (with_reducible refine (HP1.out _ A1).mono ?_); rintro e w2 ⟨E, da, dc, wa, wc, rfl, hE, hD, hW, hdc, hwc, hb⟩; have B2 := Lib.hid (pstep B1.out hb); have A2 := Lib.hid (A1.out.step hb); have D2 := Lib.hid hD; have W2 := Lib.hid hW; clear hb hE hD hW)
    | (go_at_call 14; (with_reducible refine (clone_W ops ad n cap _ hm A2 hn9).mono ?_); rintro e w3 ⟨ra3, rc3, rfl, own, hb⟩; have bx := below_alloc w3 (.cells #[.int .i64 5, .int .i64 id] 33); have O3 := Lib.hid (own_step own bx); have B3 := Lib.hid (pstep (pstep B2.out hb) bx); have D3 := Lib.hid ((D2.out.step hb).step bx); have W3 := Lib.hid ((W2.out.step hb).step bx); have N3 := Lib.hid (wo_oneAt w3 ⟨5, id⟩ 1); have hs3 : w2.heap.size ≤ (w3.alloc (.cells #[.int .i64 5, .int .i64 id] 33)).heap.size := Nat.le_trans hb.size bx.size; clear hb own bx)
    | (at_builtin; refine wpList_append_n shO rfl _ _ 22 rfl w2.heap.size 33 i0 _ 16 Try.underlying22 hi hz0 hz1 hz2 rfl (.slice ra3 n rc3) n ops [⟨5, id⟩] hm rfl O3.out (some ⟨w3.heap.size, 0, none⟩) 1 1 rfl (Lib.hid rfl) N3.out (by unfold maxLen; omega) (by omega) hs3 ?_; intro ra4 rc4 w4 own4 grow4 _; have P4 := Lib.hid (Shape.At.own (S := shO) own4 HM2.out); have B4 := Lib.hid (B3.out.grown grow4 B3.out.size (fun _ hq => Nat.le_trans B2.out.size (own_lt O3.out hq).1)); have D4 := Lib.hid (D3.out.same_grown O3.out grow4 D2.out); have W4 := Lib.hid (W3.out.same_grown O3.out grow4 W2.out); clear own4 grow4)
    | (go_at_call 8; (with_reducible refine (HP2.out ra4 rc4 _ P4).mono ?_); rintro e w5 ⟨E5, da5, dc5, wa5, wc5, rfl, hE, hD, hW, hdc5, hwc5, hb⟩; have B5 := Lib.hid (pstep B4.out hb); have D5 := Lib.hid (D4.out.step hb); have W5 := Lib.hid (W4.out.step hb); have E5' := Lib.hid hE; have D6 := Lib.hid hD; have W6 := Lib.hid hW; clear hb hE hD hW)
    | fail)
  obtain ⟨eb, eo, ee, heb, cx⟩ := at_int E5'.out HXE.out
  cases ee
  rw [Nat.zero_add] at cx
  clear HP1 HP2 D2 D3 D4 W2 W3 W4
  rcases H5.out with ⟨hx0, heq⟩ | ⟨rfl, hid, heq⟩
  · cases heq
    obtain rfl : dn2 = dn := HDL2.out.symm.trans HDL.out
    obtain rfl : wn2 = wn := HWL2.out.symm.trans HWL.out
    have p0 : (x == 0) = false := by simpa using hx0
    have p1 : (x != 0) = true := by simpa using hx0
    clear H5 hx0
    go_wp2_with (first
      | (go_at_call 11; (with_reducible refine (equalI _ HDL D5 D6 hdb).mono ?_); rintro e w7 ⟨rfl, hb⟩; have B7 := Lib.hid (pstep B5.out hb); have W7 := Lib.hid (W5.out.step hb); have W8 := Lib.hid (W6.out.step hb); clear hb)
      | (go_at_call 11; (with_reducible refine (equalI _ HWL W8 W7 hwb).mono ?_); rintro e w9 ⟨rfl, hb⟩; have B9 := Lib.hid (pstep B7.out hb); clear hb)
      | fail)
    go_ret
    exact ⟨rfl, B9.out⟩
  · have hsy := flush_says (s := ⟨d, c, l⟩) hid
    rw [← heq] at hsy
    obtain ⟨f1, f2, ⟨d', f3⟩, f4, f5⟩ := hsy
    simp only at f1 f2 f3 f4 f5
    have HNF : Hid (false = decide (id ∈ l2)) := Lib.hid (decide_eq_false f2).symm
    have hdd : dn ≤ dn2 := by rw [← HDL.out, ← HDL2.out, f3, List.length_append]; omega
    have hdt : d2.take dn = d := by rw [f3, ← HDL.out]; exact List.take_left
    have DT := Lib.hid (D6.out.take dn)
    rw [hdt] at DT
    have c2q : (c2 == id) = false := by simpa using f1
    have hl1 : ¬ (dn2 : Int) < (dn : Int) := by omega
    have hl2 : decide ((dn2 : Int) < (dn : Int)) = false := decide_eq_false hl1
    have hk0 : (0 : Int) ≤ (dn : Int) := by omega
    have hkc : (dn : Int) ≤ (dc5 : Int) := by omega
    have hkc2 : dn ≤ dc5 := by omega
    by_cases hb : busyO ⟨d, c, l⟩ id
    · obtain ⟨g1, g2⟩ := f5 hb
      subst g2
      obtain ⟨q, rfl⟩ : ∃ q, dn2 = q + 1 := by
        cases dn2 with
        | zero =>
          have : d2 = [] := List.eq_nil_of_length_eq_zero HDL2.out
          rw [this] at g1
          cases g1
        | succ q => exact ⟨q, rfl⟩
      have hgq : d2[q]? = some id := by
        rw [List.getLast?_eq_getElem?, HDL2.out] at g1
        exact g1
      obtain ⟨lb, lo, rfl, hlb, cl⟩ := at_int D6.out hgq
      have hq0 : (0 : Int) ≤ (q : Int) := by omega
      have hqw : IntKind.i64.wrap ((q : Int)) = (q : Int) := by rw [IntKind.wrap_i64]; omega
      have hqw2 : IntKind.i64.wrap ((q : Int) + 1 - 1) = (q : Int) := by rw [IntKind.wrap_i64]; omega
      have hqq : decide (q < q + 1) = true := decide_eq_true (by omega)
      have HBZ := Lib.hid hb
      clear H5 heq f1 f2 f3 f4 f5 g1 hgq hb hdt HXE
      by_cases hci : c = id
      · subst hci
        clear HBZ
        go_wp2_with (first
          | (go_at_call 15; (with_reducible refine (contains_Q _ _ W6 HWL2 hwb2 false HNF).mono ?_); rintro e w6 ⟨rfl, rfl⟩)
          | (go_at_call 11; (with_reducible refine (equalI _ HDL DT D5 hdb).mono ?_); rintro e w7 ⟨rfl, hb⟩; have B7 := Lib.hid (pstep B5.out hb); have cl7 := (hb.cell (p := ⟨lb, lo + q, none⟩) hlb).trans cl; have hlb7 := Nat.lt_of_lt_of_le hlb hb.size; clear hb)
          | fail)
        go_ret
        exact ⟨rfl, B7.out⟩
      · have hil : id ∈ l := HBZ.out.elim (fun h => h) (fun h => absurd h hci)
        have HIL : Hid (true = decide (id ∈ l)) := Lib.hid (decide_eq_true hil).symm
        have p1 : (c != id) = true := by simpa using hci
        clear HBZ hil
        go_wp2_with (first
          | (go_at_call 15; (with_reducible refine (contains_Q _ _ W6 HWL2 hwb2 false HNF).mono ?_); rintro e w6 ⟨rfl, rfl⟩)
          | (go_at_call 11; (with_reducible refine (equalI _ HDL DT D5 hdb).mono ?_); rintro e w7 ⟨rfl, hb⟩; have B7 := Lib.hid (pstep B5.out hb); have W7 := Lib.hid (W5.out.step hb); have cl7 := (hb.cell (p := ⟨lb, lo + q, none⟩) hlb).trans cl; have hlb7 := Nat.lt_of_lt_of_le hlb hb.size; clear hb)
          | (go_at_call 15; (with_reducible refine (contains_Q _ _ W7 HWL hwb true HIL).mono ?_); rintro e w8 ⟨rfl, rfl⟩)
          | fail)
        go_ret
        exact ⟨rfl, B7.out⟩
    · have e2 := f4 hb
      cases e2
      obtain rfl : dn2 = dn := HDL2.out.symm.trans HDL.out
      obtain rfl : wn2 = wn := HWL2.out.symm.trans HWL.out
      have p1 : (c != id) = true := by simpa using f1
      clear H5 heq f1 f2 f3 f4 f5 hdt hb HXE
      go_wp2_with (first
        | (go_at_call 15; (with_reducible refine (contains_Q _ _ W6 HWL2 hwb2 false HNF).mono ?_); rintro e w6 ⟨rfl, rfl⟩)
        | (go_at_call 11; (with_reducible refine (equalI _ HDL DT D5 hdb).mono ?_); rintro e w7 ⟨rfl, hb⟩; have B7 := Lib.hid (pstep B5.out hb); have W7 := Lib.hid (W5.out.step hb); clear hb)
        | (go_at_call 15; (with_reducible refine (contains_Q _ _ W7 HWL hwb false HNF).mono ?_); rintro e w8 ⟨rfl, rfl⟩)
        | fail)
      go_ret
      exact ⟨rfl, B7.out⟩
end
theorem workFlushed_walk (v v1 : Value) (w : World) (h : ArgWos w v) (h1 : ArgInt w v1) (u : lenOf v ≤ 8796093021952) : Calls Try.prog 5 #[v, v1] w fun e w' => e = .returned (.bool true) ∧ Below w.heap.size w w' := by
  obtain ⟨a1, c1, l, rfl, hA, hn, _⟩ := h
  obtain ⟨id, rfl⟩ := h1
  have u' : l.length ≤ 8796093021952 := u
  by_cases h4 : 400 ≤ l.length
  · exact flu_big id w (Lib.hid hA) (Lib.hid rfl) u' h4
  · exact flu_ok id w (Lib.hid hA) (Lib.hid rfl) (by omega)
end Go.Proofs.Ytlmkbgclogbpfaa
