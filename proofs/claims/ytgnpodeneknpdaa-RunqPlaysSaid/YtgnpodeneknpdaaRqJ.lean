/- Package runq: the walk of Play. -/
import Derived.Test.YtgnpodeneknpdaaRqI
import Derived.Test.YtgnpodeneknpdaaErr
namespace Go.Proofs.Ytgnpodeneknpdaa
open Go.RowKit Go.Maps

theorem remaining_W {w0 w : World} {B m L : Nat} {g : Gq} {R : Array Value} {tv : Value} {s : StU} {taken : List Int} (HM : Hid (MemQ w0 w B m L g R tv taken s.list.length)) (HT : Hid (TellQ g s)) (hc : s.list.length ≤ 10000000000000) :
    Calls Try.prog 27 #[.pointer (some ⟨B, 0, none⟩)] w fun e w' => (∃ la lc, e = .returned (.slice la s.list.length lc) ∧ shI.At w' la lc (leftU s)) ∧ Below w.heap.size w w' := by
  refine (callsIn_wide.1 (remaining_come Fence.wide 3 (fun _ => trivial) rfl (by omega) HM HT hc (Lib.hid rfl))).mono ?_
  rintro e w' ⟨v, rfl, hrow, hb⟩
  have hl : (leftU s).length = s.list.length := by simp [leftU]
  obtain ⟨ad, cap, rfl, _⟩ := own_shape hrow
  exact ⟨⟨ad, cap, rfl, Shape.At.own (S := shI) hrow hl⟩, hb⟩
theorem QuS.other {w0 w : World} {B m L : Nat} {s : StU} (h : QuS w0 w B m L s) {E i : Nat} {cs : Array Value} {u : Value} (hE : w.heap[E]? = some (.cells cs 28 (0, 0))) (hw : w0.heap.size ≤ E) : QuS w0 (w.setCell ⟨E, i, none⟩ u) B m L s := by
  obtain ⟨g, R, tv, h1, h2⟩ := h
  exact ⟨g, R, tv, h1.other hE hw, h2⟩
/-- What is in memory while Play runs. -/
structure LpP (w wx : World) (E B m n K : Nat) (es : List Int) (s : StU) : Prop where
  e : ErrRow wx E n es
  s : QuS w wx B m K s
  lt : w.heap.size ≤ E
section
variable {w wx wy : World} {E B m n K : Nat} {es : List Int} {s s' : StU}
theorem LpP.b (h : LpP w wx E B m n K es s) : Below w.heap.size w wx := h.s.b
theorem LpP.step (h : LpP w wx E B m n K es s) (hb : Below wx.heap.size wx wy) : LpP w wy E B m n K es s := ⟨h.e.same (hb.block _ h.e.lt), h.s.step hb, h.lt⟩
theorem LpP.turn {K' : Nat} (h : LpP w wx E B m n K es s) (hs : QuS w wy B m K' s') (hk : KeepQ wx wy) : LpP w wy E B m n K' es s' := by
  obtain ⟨cur, hc, r⟩ := h.e
  exact ⟨⟨cur, hk.at_ _ _ _ _ hc (by decide) (by decide) (by decide), r⟩, hs, h.lt⟩
theorem LpP.more {K' : Nat} (h : LpP w wx E B m n K es s) (hk : K ≤ K') : LpP w wx E B m n K' es s := ⟨h.e, h.s.more hk, h.lt⟩
theorem LpP.setE (h : LpP w wx E B m n K es s) {k : Nat} (hk : es.length = k) (hkn : k < n) (x : Int) : LpP w (wx.setCell ⟨E, k, none⟩ (.int .i64 x)) E B m n K (es ++ [x]) s := by
  have he := h.e
  obtain ⟨cur, hc, _⟩ := he
  exact ⟨h.e.put hk hkn x, h.s.other hc h.lt, h.lt⟩
end
def PlayOut (w : World) (n : Nat) (es : List Int) (s : StU) (e : Ending) (w' : World) : Prop :=
  ∃ E ta tc la lc, e = .returned (.tuple #[.slice (some ⟨E, 0, none⟩) n n, .slice ta s.taken.length tc, .slice la s.list.length lc]) ∧ shI.At w' (some ⟨E, 0, none⟩) n es ∧ shI.At w' ta tc s.taken ∧ shI.At w' la lc (leftU s) ∧ Below w.heap.size w w'
theorem siz_nat {ops : List RuT} : (runU newU ops).taken.length + (runU newU ops).list.length ≤ ops.length := by
  have := siz_le (ops := ops) good_newU
  unfold sizU at this
  have e : (newU.taken.length : Int) + (newU.list.length : Int) = 0 := rfl
  omega
set_option maxHeartbeats 1000000 in
set_option maxRecDepth 100000 in
theorem play_ok {ad : Option Addr} {cap n : Nat} {ops : List RuT} (w : World) (HA : Hid (shR.At w ad cap ops)) (hm : Hid (ops.length = n)) (hn : n ≤ 10000000000000) (HW : Hid (∀ o ∈ ops, WfI o.i)) :
    Calls Try.prog 9 #[.slice ad n cap] w (PlayOut w n (errsU newU ops) (runU newU ops)) := by
  obtain ⟨i0, hi, hz0, hz1, hz2⟩ := info_parts info_errno
  have hb0 : i0.bytes * n ≤ 281474976710656 := by rw [hz2]; omega
  have hmx : n ≤ maxLen := by unfold maxLen; omega
  go_enter Try.func9, Try.ntmps9
  go_upto_region 2 with (first
    | (go_at_call 24; (with_reducible refine (newQueue_N _).mono ?_); rintro e w2 ⟨B, m0, rfl, hq⟩; have HS2 := Lib.hid hq; clear hq)
    | fail)
  have hs2 : w.heap.size ≤ w2.heap.size := HS2.out.b.size
  go_upto_region 3 with (first
    | (at_make; refine wpList_make_full _ rfl _ _ 23 rfl w.heap.size 28 i0 _ 1 Try.underlying23 hi hz0 hz1 .i64 .i64 _ _ n rfl rfl rfl rfl hb0 hmx hs2 ?_; intro w3 hown hgrow)
    | fail)
  have L0 : LpP w w3 w2.heap.size B m0 n 0 [] newU := by
    have hb3 : Below w2.heap.size w2 w3 := (Below.refl w2.heap.size w2).grown hgrow (Nat.le_refl _) (fun k hk => by cases hk)
    refine ⟨?_, HS2.out.step hb3, hs2⟩
    obtain ⟨_, h2⟩ := hown
    rcases h2 with ⟨h2, _⟩ | ⟨g, cp, cur, e, _, hc, _, _, hsz, _⟩
    · cases h2
    · simp only [Value.slice.injEq, Option.some.injEq, Addr.mk.injEq, and_true, true_and] at e
      obtain ⟨rfl, rfl⟩ := e
      exact ⟨cur, hc, by simpa using hsz, fun j x hj => by simp at hj⟩
  have H2 := Lib.hid L0
  clear L0 hown hgrow HS2 hs2
  go_wp2_with fail
  generalize w2.heap.size = E at H2 ⊢
  go_loopw [15] (fun i wr => ∃ k : Nat, k ≤ n ∧ i = .int .i64 k ∧ Hid (LpP w wr E B m0 n k (errsU newU (ops.take k)) (runU newU (ops.take k)))) (fun i _ => n - (intOf i).toNat)
  case atStart => exact ⟨0, Nat.zero_le _, rfl, H2⟩
  case round =>
    clear H2
    obtain ⟨k, hk, rfl, HL⟩ := hrel
    have hlen : (errsU newU (ops.take k)).length = k := by rw [errsU_len, List.length_take, hm.out]; omega
    have htk : (runU newU (ops.take k)).taken.length ≤ 10000000000000 ∧ (runU newU (ops.take k)).list.length ≤ 10000000000000 := by
      have := siz_nat (ops := ops.take k)
      rw [List.length_take, hm.out] at this
      omega
    have HLEN := Lib.hid hlen
    clear hlen
    by_cases hlt : k < n
    · obtain ⟨o, ho⟩ : ∃ o, ops[k]? = some o := ⟨ops[k]'(by rw [hm.out]; exact hlt), List.getElem?_eq_getElem _⟩
      have hwf : WfI o.i := HW.out o (List.mem_of_getElem? ho)
      have HNE := Lib.hid (errsU_next ho newU)
      have HNR := Lib.hid (runU_next ho newU)
      obtain ⟨b, off, rfl, hb, e0, e1, e2⟩ := at_ru HA.out ho
      have g0 := (HL.out.b.cell (p := ⟨b, off + k * 3, none⟩) hb).trans e0
      have g1 := (HL.out.b.cell (p := ⟨b, off + k * 3 + 1, none⟩) hb).trans e1
      have g2 := (HL.out.b.cell (p := ⟨b, off + k * 3 + 2, none⟩) hb).trans e2
      have hbr : b < wr.heap.size := Nat.lt_of_lt_of_le hb HL.out.b.size
      obtain ⟨kd, id, lv⟩ := o
      simp only at g0 g1 g2 hwf
      obtain ⟨st, hst⟩ : ∃ st, runU newU (ops.take k) = st := ⟨_, rfl⟩
      obtain ⟨es, hes⟩ : ∃ es, errsU newU (ops.take k) = es := ⟨_, rfl⟩
      rw [hst] at HL htk HNE HNR
      rw [hes] at HL HLEN HNE
      obtain ⟨x, hx⟩ : ∃ x, errU st ⟨kd, id, lv⟩ = x := ⟨_, rfl⟩
      have HX := Lib.hid hx
      have hkL : k < maxLen := by omega
      have LA := Lib.hid (HL.out.step (below_alloc wr (.cells #[.int .i64 kd, .int .i64 id, .int .i64 lv] 34)))
      have OA := Lib.hid (heap_alloc_new wr (.cells #[.int .i64 kd, .int .i64 id, .int .i64 lv] 34))
      have SA := Lib.hid LA.out.s
      clear e0 e1 e2 ho hst hes hx
      go_upto_region 7 with (first
        | (go_at_call 25; (with_reducible refine (check_W SA kd id lv hwf x HX).mono ?_); rintro e w4 ⟨rfl, hb4⟩; have L4 := Lib.hid (LA.out.step hb4); have O4 := Lib.hid (heap_step OA.out hb4); obtain ⟨⟨z4, cz4⟩, fz4⟩ := L4.out.e.cell hlt; have hE4 := L4.out.e.lt; clear hb4)
        | fail)
      have L5 := Lib.hid (L4.out.setE HLEN.out hlt x)
      have O5 : Hid ((w4.setCell ⟨E, k, none⟩ (.int .i64 x)).heap[wr.heap.size]? = some (.cells #[.int .i64 kd, .int .i64 id, .int .i64 lv] 34 (0, 0))) := Lib.hid ((Below.heap_setCell w4 ⟨E, k, none⟩ (.int .i64 x) wr.heap.size (fun e => by have := HL.out.e.lt; simp only at e; omega)).trans O4.out)
      have HNE2 : Hid (errsU newU (ops.take (k + 1)) = es ++ [x]) := Lib.hid (by rw [HNE.out, HX.out])
      generalize w4.setCell ⟨E, k, none⟩ (.int .i64 x) = w5 at L5 O5 ⊢
      have hxe : (es ++ [x])[k]? = some x := by rw [List.getElem?_append_right (by rw [HLEN.out]; exact Nat.le_refl _), HLEN.out, Nat.sub_self]; rfl
      have cx := L5.out.e.get hxe
      have hE5 := L5.out.e.lt
      obtain ⟨t0, t1, t2⟩ := trio_at O5.out
      have hO5 := heap_lt O5.out
      have S5 := Lib.hid L5.out.s
      clear hxe cz4 fz4 hE4 SA OA LA L4 O4 HNE
      by_cases hx0 : x = 0
      · subst hx0
        have HD : Hid (stepU st ⟨kd, id, lv⟩ = doU st ⟨kd, id, lv⟩) := Lib.hid (err_step HX.out)
        go_wp2_with (first
          | (go_at_call 26; (with_reducible refine (perform_W S5 kd id lv HX.out hwf hkL htk.1).mono ?_); rintro e w6 ⟨rfl, h6, k6⟩; have L6 := Lib.hid (L5.out.turn h6 k6); clear h6 k6)
          | fail)
        go_roundw
        case rel => exact ⟨k + 1, by omega, by go_num, Lib.hid (by rw [HNE2.out, HNR.out, HD.out]; exact L6.out)⟩
        case measure => simp [intOf]; omega
      · have hxb : (x == 0) = false := by simpa using hx0
        have HD : Hid (stepU st ⟨kd, id, lv⟩ = st) := Lib.hid (by unfold stepU; rw [if_neg (by rw [HX.out]; exact hx0)])
        go_wp2_with fail
        go_roundw
        case rel => exact ⟨k + 1, by omega, by go_num, Lib.hid (by rw [HNE2.out, HNR.out, HD.out]; exact L5.out.more (by omega))⟩
        case measure => simp [intOf]; omega
    · obtain rfl : k = n := by omega
      have e : ops.take k = ops := by rw [← hm.out, List.take_length]
      rw [e] at HL htk
      obtain ⟨st, hst⟩ : ∃ st, runU newU ops = st := ⟨_, rfl⟩
      rw [hst] at HL htk ⊢
      have HST := Lib.hid hst
      obtain ⟨g, R, tv, hM, hT⟩ := HL.out.s
      have htr := hM.tk
      obtain ⟨ta, tc, rfl, _⟩ := own_shape htr
      have ct := hM.cell hM.rt
      have hBl := hM.lt
      have HTK := Lib.hid (Shape.At.own (S := shI) htr rfl)
      have HE := Lib.hid (err_at HL.out.e k)
      have HB := Lib.hid HL.out.b
      have HT := Lib.hid hT
      have HMD : Hid (MemQ w wr.drew B m0 k g R (.slice ta st.taken.length tc) st.taken st.list.length) := Lib.hid (hM.step ((Below.refl _ _).drew))
      have HCT := Lib.hid ct
      clear hM hT htr hlt hk HL hst e
      go_wp2_with fail
      go_region_with (first
        | (go_at_call 27; (with_reducible refine (remaining_W HMD HT htk.2).mono ?_); rintro e w7 ⟨⟨la, lc, rfl, h7⟩, b7⟩; have H7 := Lib.hid h7; have B7 := Lib.hid b7; have ct7 := (b7.cell (p := ⟨B, 33, none⟩) hBl).trans HCT.out; have hB7 := Nat.lt_of_lt_of_le hBl b7.size; clear h7 b7)
        | fail)
      all_goals go_wp2_with fail
      all_goals refine bodyPost_ret (v := .tuple #[.slice (some ⟨E, 0, none⟩) k k, .slice ta st.taken.length tc, .slice la st.list.length lc]) (by simp [results, Try.results9, go_sem]) rfl ?_
      all_goals rw [HST.out]
      all_goals exact ⟨E, ta, tc, la, lc, rfl, (HE.out.step ((Below.refl _ _).drew)).step B7.out, (HTK.out.step ((Below.refl _ _).drew)).step B7.out, H7.out, pstep (pstep HB.out ((Below.refl _ _).drew)) B7.out⟩
end Go.Proofs.Ytgnpodeneknpdaa
