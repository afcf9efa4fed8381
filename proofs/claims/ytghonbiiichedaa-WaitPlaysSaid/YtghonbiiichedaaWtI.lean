/- Package wait: the walk of Play. -/
import Derived.Test.YtghonbiiichedaaWtH
import Derived.Test.YtghonbiiichedaaErr
namespace Go.Proofs.Ytghonbiiichedaa
open Go.RowKit Go.Maps

/-- What is in memory while Play runs. -/
structure LpP (w wx : World) (E B m n K : Nat) (es : List Int) (s : StV) : Prop where
  e : ErrRow wx E n es
  s : QuV w wx B m K s
  lt : w.heap.size ≤ E
section
variable {w wx wy : World} {E B m n K : Nat} {es : List Int} {s s' : StV}
theorem LpP.b (h : LpP w wx E B m n K es s) : Below w.heap.size w wx := h.s.b
theorem LpP.step (h : LpP w wx E B m n K es s) (hb : Below wx.heap.size wx wy) : LpP w wy E B m n K es s := ⟨h.e.same (hb.block _ h.e.lt), h.s.step hb, h.lt⟩
theorem LpP.turn {K' : Nat} (h : LpP w wx E B m n K es s) (hs : QuV w wy B m K' s') (hk : KeepV wx wy) : LpP w wy E B m n K' es s' := by
  obtain ⟨cur, hc, r⟩ := h.e
  exact ⟨⟨cur, hk.at_ _ _ _ _ hc (by decide) (by decide) (by decide) (by decide), r⟩, hs, h.lt⟩
theorem LpP.more {K' : Nat} (h : LpP w wx E B m n K es s) (hk : K ≤ K') : LpP w wx E B m n K' es s := ⟨h.e, h.s.more hk, h.lt⟩
theorem LpP.setE (h : LpP w wx E B m n K es s) {k : Nat} (hk : es.length = k) (hkn : k < n) (x : Int) : LpP w (wx.setCell ⟨E, k, none⟩ (.int .i64 x)) E B m n K (es ++ [x]) s := by
  have he := h.e
  obtain ⟨cur, hc, _⟩ := he
  exact ⟨h.e.put hk hkn x, h.s.other hc h.lt, h.lt⟩
end
def PlayOut (w : World) (n : Nat) (es : List Int) (s : StV) (e : Ending) (w' : World) : Prop :=
  ∃ E ga gc la lc, e = .returned (.tuple #[.slice (some ⟨E, 0, none⟩) n n, .slice ga s.got.length gc, .slice la (slpL s.line).length lc, .int .i64 (s.things : Nat)]) ∧ shI.At w' (some ⟨E, 0, none⟩) n es ∧ shI.At w' ga gc s.got ∧ shI.At w' la lc (slpL s.line) ∧ Below w.heap.size w w'
theorem got_newV (ops : List WvT) : (runV newV ops).got.length ≤ ops.length := by
  have := got_le ops newV
  have e : newV.got.length = 0 := rfl
  omega
set_option maxHeartbeats 1000000 in
set_option maxRecDepth 100000 in
theorem play_ok {ad : Option Addr} {cap n : Nat} {ops : List WvT} (w : World) (HA : Hid (shV.At w ad cap ops)) (hm : Hid (ops.length = n)) (hn : n ≤ 10000000000000) :
    Calls Try.prog 8 #[.slice ad n cap] w (PlayOut w n (errsV newV ops) (runV newV ops)) := by
  obtain ⟨i0, hi, hz0, hz1, hz2⟩ := info_parts info_errno
  have hb0 : i0.bytes * n ≤ 281474976710656 := by rw [hz2]; omega
  have hmx : n ≤ maxLen := by unfold maxLen; omega
  have hmk := @run_makeMap Try.prog
  go_enter Try.func8, Try.ntmps8
  go_upto_region 2 with fail
  have HQ0 : QuV w ((w.alloc (.map #[] 0)).alloc (.cells #[.slice none 0 0, .map (some w.heap.size), .int .i64 0, .slice none 0 0] 40)) (w.heap.size + 1) w.heap.size 0 newV := by
    have hq2 := heap_alloc_new (w.alloc (.map #[] 0)) (.cells #[.slice none 0 0, .map (some w.heap.size), .int .i64 0, .slice none 0 0] 40)
    simp only [World.size_alloc] at hq2
    have hb2 := below_two w (.map #[] 0) (.cells #[.slice none 0 0, .map (some w.heap.size), .int .i64 0, .slice none 0 0] 40)
    have hm2 := (map_newP w).step (below_alloc _ (.cells #[.slice none 0 0, .map (some w.heap.size), .int .i64 0, .slice none 0 0] 40))
    exact ⟨fun _ => 0, .slice none 0 0, .slice none 0 0, ⟨hb2, by omega, hq2, Nat.le_refl _, hm2, World.ownsRow_nil _ _ _ _, World.ownsRow_nil _ _ _ _, fun q hq => by cases hq⟩⟩
  have HS2 := Lib.hid HQ0
  clear HQ0 hmk
  obtain ⟨m0, hm0⟩ : ∃ m, w.heap.size = m := ⟨_, rfl⟩
  obtain ⟨B, hB⟩ : ∃ B, w.heap.size + 1 = B := ⟨_, rfl⟩
  have HS3 : Hid (QuV w ((w.alloc (.map #[] 0)).alloc (.cells #[.slice none 0 0, .map (some w.heap.size), .int .i64 0, .slice none 0 0] 40)) B m0 0 newV) := Lib.hid (hB ▸ hm0 ▸ HS2.out)
  rw [hB]
  have hs2 : w.heap.size ≤ ((w.alloc (.map #[] 0)).alloc (.cells #[.slice none 0 0, .map (some w.heap.size), .int .i64 0, .slice none 0 0] 40)).heap.size := HS3.out.b.size
  clear HS2 hm0 hB
  generalize (w.alloc (.map #[] 0)).alloc (.cells #[.slice none 0 0, .map (some w.heap.size), .int .i64 0, .slice none 0 0] 40) = w2 at HS3 hs2 ⊢
  go_upto_region 3 with (first
    | (at_make; refine wpList_make_full _ rfl _ _ 23 rfl w.heap.size 28 i0 _ 1 Try.underlying23 hi hz0 hz1 .i64 .i64 _ _ n rfl rfl rfl rfl hb0 hmx hs2 ?_; intro w3 hown hgrow)
    | fail)
  have L0 : LpP w w3 w2.heap.size B m0 n 0 [] newV := by
    have hb3 : Below w2.heap.size w2 w3 := (Below.refl w2.heap.size w2).grown hgrow (Nat.le_refl _) (fun k hk => by cases hk)
    refine ⟨?_, HS3.out.step hb3, hs2⟩
    obtain ⟨_, h2⟩ := hown
    rcases h2 with ⟨h2, _⟩ | ⟨g, cp, cur, e, _, hc, _, _, hsz, _⟩
    · cases h2
    · simp only [Value.slice.injEq, Option.some.injEq, Addr.mk.injEq, and_true, true_and] at e
      obtain ⟨rfl, rfl⟩ := e
      exact ⟨cur, hc, by simpa using hsz, fun j x hj => by simp at hj⟩
  have H2 := Lib.hid L0
  clear L0 hown hgrow HS3 hs2
  go_wp2_with fail
  generalize w2.heap.size = E at H2 ⊢
  go_loopw [17] (fun i wr => ∃ k : Nat, k ≤ n ∧ i = .int .i64 k ∧ Hid (LpP w wr E B m0 n k (errsV newV (ops.take k)) (runV newV (ops.take k)))) (fun i _ => n - (intOf i).toNat)
  case atStart => exact ⟨0, Nat.zero_le _, rfl, H2⟩
  case round =>
    clear H2
    obtain ⟨k, hk, rfl, HL⟩ := hrel
    have hlen : (errsV newV (ops.take k)).length = k := by rw [errsV_len, List.length_take, hm.out]; omega
    have htk : (runV newV (ops.take k)).got.length ≤ 10000000000000 := by
      have := got_newV (ops.take k)
      rw [List.length_take, hm.out] at this
      omega
    have HLEN := Lib.hid hlen
    have HGD := Lib.hid (good_runV (ops := ops.take k) good_newV)
    clear hlen
    by_cases hlt : k < n
    · obtain ⟨o, ho⟩ : ∃ o, ops[k]? = some o := ⟨ops[k]'(by rw [hm.out]; exact hlt), List.getElem?_eq_getElem _⟩
      have HNE := Lib.hid (errsV_next ho newV)
      have HNR := Lib.hid (runV_next ho newV)
      obtain ⟨b, off, rfl, hb, e0, e1⟩ := at_wv HA.out ho
      have g0 := (HL.out.b.cell (p := ⟨b, off + k * 2, none⟩) hb).trans e0
      have g1 := (HL.out.b.cell (p := ⟨b, off + k * 2 + 1, none⟩) hb).trans e1
      have hbr : b < wr.heap.size := Nat.lt_of_lt_of_le hb HL.out.b.size
      obtain ⟨kd, id⟩ := o
      simp only at g0 g1
      obtain ⟨st, hst⟩ : ∃ st, runV newV (ops.take k) = st := ⟨_, rfl⟩
      obtain ⟨es, hes⟩ : ∃ es, errsV newV (ops.take k) = es := ⟨_, rfl⟩
      rw [hst] at HL htk HNE HNR HGD
      rw [hes] at HL HLEN HNE
      obtain ⟨x, hx⟩ : ∃ x, errV st ⟨kd, id⟩ = x := ⟨_, rfl⟩
      have HX := Lib.hid hx
      have hkL : k < maxLen := by unfold maxLen; omega
      have LA := Lib.hid (HL.out.step (below_alloc wr (.cells #[.int .i64 kd, .int .i64 id] 35)))
      have OA := Lib.hid (heap_alloc_new wr (.cells #[.int .i64 kd, .int .i64 id] 35))
      have SA := Lib.hid LA.out.s
      clear e0 e1 ho hst hes hx
      go_upto_region 7 with (first
        | (go_at_call 15; (with_reducible refine (check_W SA HGD kd id x HX).mono ?_); rintro e w4 ⟨rfl, hb4⟩; have L4 := Lib.hid (LA.out.step hb4); have O4 := Lib.hid (heap_step OA.out hb4); obtain ⟨⟨z4, cz4⟩, fz4⟩ := L4.out.e.cell hlt; have hE4 := L4.out.e.lt; clear hb4)
        | fail)
      have L5 := Lib.hid (L4.out.setE HLEN.out hlt x)
      have O5 : Hid ((w4.setCell ⟨E, k, none⟩ (.int .i64 x)).heap[wr.heap.size]? = some (.cells #[.int .i64 kd, .int .i64 id] 35 (0, 0))) := Lib.hid ((Below.heap_setCell w4 ⟨E, k, none⟩ (.int .i64 x) wr.heap.size (fun e => by have := HL.out.e.lt; simp only at e; omega)).trans O4.out)
      have HNE2 : Hid (errsV newV (ops.take (k + 1)) = es ++ [x]) := Lib.hid (by rw [HNE.out, HX.out])
      generalize w4.setCell ⟨E, k, none⟩ (.int .i64 x) = w5 at L5 O5 ⊢
      have hxe : (es ++ [x])[k]? = some x := by rw [List.getElem?_append_right (by rw [HLEN.out]; exact Nat.le_refl _), HLEN.out, Nat.sub_self]; rfl
      have cx := L5.out.e.get hxe
      have hE5 := L5.out.e.lt
      obtain ⟨t0, t1⟩ := pair_at O5.out
      have hO5 := heap_lt O5.out
      have S5 := Lib.hid L5.out.s
      clear hxe cz4 fz4 hE4 SA OA LA L4 O4 HNE
      by_cases hx0 : x = 0
      · subst hx0
        have HD : Hid (stepV st ⟨kd, id⟩ = doV st ⟨kd, id⟩) := Lib.hid (errW_step HX.out)
        go_wp2_with (first
          | (go_at_call 16; (with_reducible refine (perform_W S5 HGD kd id HX.out hkL htk).mono ?_); rintro e w6 ⟨rfl, h6, k6⟩; have L6 := Lib.hid (L5.out.turn h6 k6); clear h6 k6)
          | fail)
        go_roundw
        case rel => exact ⟨k + 1, by omega, by go_num, Lib.hid (by rw [HNE2.out, HNR.out, HD.out]; exact L6.out)⟩
        case measure => simp [intOf]; omega
      · have hxb : (x == 0) = false := by simpa using hx0
        have HD : Hid (stepV st ⟨kd, id⟩ = st) := Lib.hid (by unfold stepV; rw [if_neg (by rw [HX.out]; exact hx0)])
        go_wp2_with fail
        go_roundw
        case rel => exact ⟨k + 1, by omega, by go_num, Lib.hid (by rw [HNE2.out, HNR.out, HD.out]; exact L5.out.more (by omega))⟩
        case measure => simp [intOf]; omega
    · obtain rfl : k = n := by omega
      have e : ops.take k = ops := by rw [← hm.out, List.take_length]
      rw [e] at HL htk HGD
      obtain ⟨st, hst⟩ : ∃ st, runV newV ops = st := ⟨_, rfl⟩
      rw [hst] at HL htk HGD ⊢
      have HST := Lib.hid hst
      obtain ⟨P, ov, gv, hM⟩ := HL.out.s
      have htr := hM.got
      obtain ⟨ta, tc, rfl, _⟩ := own_shape htr
      have c2 := hM.cells.2.2.1
      have c3 := hM.cells.2.2.2
      have hBl := hM.lt
      have HTK := Lib.hid (Shape.At.own (S := shI) htr rfl)
      have HE := Lib.hid (err_at HL.out.e k)
      have HB := Lib.hid HL.out.b
      obtain ⟨gn, hgn⟩ : ∃ gn, st.got.length = gn := ⟨_, rfl⟩
      obtain ⟨sn, hsn⟩ : ∃ sn, (slpL st.line).length = sn := ⟨_, rfl⟩
      obtain ⟨th, hth⟩ : ∃ th, st.things = th := ⟨_, rfl⟩
      rw [hgn] at c3
      rw [hth] at c2
      have hMD := hM.step ((Below.refl wr.heap.size wr).drew)
      have HMD := Lib.hid hMD
      have HC2 := Lib.hid c2
      have HC3 := Lib.hid c3
      have hll := line_len HGD.out
      have HSN := Lib.hid hsn
      have HGN := Lib.hid hgn
      have HTH := Lib.hid hth
      clear hM htr hlt hk HL hst e hMD hsn hgn hth
      go_wp2_with fail
      go_region_with (first
        | (go_at_call 17; (with_reducible refine (asleep_W HMD hll sn HSN).mono ?_); rintro e w7 ⟨⟨la, lc, rfl, h7⟩, b7⟩; have H7 := Lib.hid h7; have B7 := Lib.hid b7; have ct7 := (b7.cell (p := ⟨B, 2, none⟩) hBl).trans HC2.out; have cg7 := (b7.cell (p := ⟨B, 3, none⟩) hBl).trans HC3.out; have hB7 := Nat.lt_of_lt_of_le hBl b7.size; clear h7 b7)
        | fail)
      all_goals go_wp2_with fail
      all_goals refine bodyPost_ret (v := .tuple #[.slice (some ⟨E, 0, none⟩) k k, .slice ta gn tc, .slice la sn lc, .int .i64 (th : Nat)]) (by simp [results, Try.results8, go_sem]) rfl ?_
      all_goals rw [HST.out]
      all_goals exact ⟨E, ta, tc, la, lc, by rw [HGN.out, HSN.out, HTH.out], (HE.out.step ((Below.refl _ _).drew)).step B7.out, (HTK.out.step ((Below.refl _ _).drew)).step B7.out, H7.out, pstep (pstep HB.out ((Below.refl _ _).drew)) B7.out⟩
end Go.Proofs.Ytghonbiiichedaa
