/- Package work: the walk of Play. -/
import Derived.Test.YtlmkbgclogbpfaaWrkD
import Derived.Test.YtlmkbgclogbpfaaErr
namespace Go.Proofs.Ytlmkbgclogbpfaa
open Go.RowKit

theorem WqR.other {w0 w : World} {B : Nat} {s : StO} {wv dv : Value} (h : WqR w0 w B s wv dv) {E i : Nat} {cs : Array Value} {u : Value} (hE : w.heap[E]? = some (.cells cs 25 (0, 0))) (hw : w0.heap.size ≤ E) : WqR w0 (w.setCell ⟨E, i, none⟩ u) B s wv dv := by
  have hBE : ¬ B = E := by
    rintro rfl
    have := h.hp
    rw [hE] at this
    simp only [Option.some.injEq, Obj.cells.injEq] at this
    exact absurd this.2.1 (by decide)
  exact ⟨h.b.trans (Below.setCell (Below.refl _ _) hw _), h.hB, (Below.heap_setCell w ⟨E, i, none⟩ u B hBE).trans h.hp, que_set h.wq (que_ne h.wq hE (by decide)) _, que_set h.dq (que_ne h.dq hE (by decide)) _, h.ap⟩
/-- What is in memory while Play runs. -/
structure LpP (w wx : World) (E B n : Nat) (es : List Int) (s : StO) : Prop where
  e : ErrRow wx E n es
  s : WqS w wx B s
  lt : w.heap.size ≤ E
section
variable {w wx wy : World} {E B n : Nat} {es : List Int} {s s' : StO}
theorem WqS.step {w0 : World} (h : WqS w0 wx B s) (hb : Below wx.heap.size wx wy) : WqS w0 wy B s := by obtain ⟨wv, dv, h⟩ := h; exact ⟨wv, dv, h.step hb⟩
theorem LpP.b (h : LpP w wx E B n es s) : Below w.heap.size w wx := by obtain ⟨_, _, h⟩ := h.s; exact h.b
theorem LpP.step (h : LpP w wx E B n es s) (hb : Below wx.heap.size wx wy) : LpP w wy E B n es s := ⟨h.e.same (hb.block _ h.e.lt), h.s.step hb, h.lt⟩
theorem LpP.turn (h : LpP w wx E B n es s) (hs : WqS w wy B s') (hk : KeepO wx wy) : LpP w wy E B n es s' := by
  obtain ⟨cur, hc, r⟩ := h.e
  exact ⟨⟨cur, hk.at_ _ _ _ _ hc (by decide) (by decide), r⟩, hs, h.lt⟩
theorem LpP.setE (h : LpP w wx E B n es s) {k : Nat} (hk : es.length = k) (hkn : k < n) (x : Int) : LpP w (wx.setCell ⟨E, k, none⟩ (.int .i64 x)) E B n (es ++ [x]) s := by
  have he := h.e
  obtain ⟨cur, hc, _⟩ := he
  obtain ⟨wv, dv, hR⟩ := h.s
  exact ⟨h.e.put hk hkn x, ⟨wv, dv, hR.other hc h.lt⟩, h.lt⟩
end
def BadL (e : Ending) : Prop := e = .returned (.tuple #[.slice none 0 0, .slice none 0 0, .slice none 0 0, .int .i64 0, .int .i64 2])
set_option maxHeartbeats 1000000 in
set_option maxRecDepth 100000 in
theorem play_bad (ad : Option Addr) (cap n : Nat) (w : World) (h : 400 < n) (hn : n ≤ 9223372036854775807) :
    Calls Try.prog 8 #[.slice ad n cap] w fun e w' => BadL e ∧ w = w' := by
  have hd : decide ((400 : Int) < (n : Int)) = true := decide_eq_true (by omega)
  go_enter Try.func8, Try.ntmps8
  go_wp2_with fail
  refine bodyPost_ret (v := .tuple #[.slice none 0 0, .slice none 0 0, .slice none 0 0, .int .i64 0, .int .i64 2]) (by simp [results, Try.results8, go_sem]) rfl ?_
  exact ⟨rfl, rfl⟩
def PlayOut (w : World) (n : Nat) (es : List Int) (s : StO) (e : Ending) (w' : World) : Prop :=
  ∃ E da dc wa wc, e = .returned (.tuple #[.slice (some ⟨E, 0, none⟩) n n, .slice da s.done.length dc, .slice wa s.wait.length wc, .int .i64 s.now, .int .i64 0]) ∧ shI.At w' (some ⟨E, 0, none⟩) n es ∧ shI.At w' da dc s.done ∧ shI.At w' wa wc s.wait ∧ s.done.length ≤ dc ∧ s.wait.length ≤ wc ∧ Below w.heap.size w w'
set_option maxHeartbeats 1000000 in
set_option maxRecDepth 100000 in
theorem play_ok {ad : Option Addr} {cap n : Nat} {ops : List WoT} (w : World) (HA : Hid (shO.At w ad cap ops)) (hm : Hid (ops.length = n)) (hn : n ≤ 400) :
    Calls Try.prog 8 #[.slice ad n cap] w (PlayOut w n (errsO newO ops) (runO newO ops)) := by
  obtain ⟨i0, hi, hz0, hz1, hz2⟩ := info_parts info_errno
  have hd : decide ((400 : Int) < (n : Int)) = false := decide_eq_false (by omega)
  have hb0 : i0.bytes * n ≤ 281474976710656 := by rw [hz2]; omega
  have hmx : n ≤ maxLen := by unfold maxLen; omega
  go_enter Try.func8, Try.ntmps8
  go_upto_region 4 with fail
  have hh := heap_alloc_new w (.cells #[.slice none 0 0, .int .i64 (-1), .slice none 0 0] 41)
  have B2 := below_alloc w (.cells #[.slice none 0 0, .int .i64 (-1), .slice none 0 0] 41)
  generalize w.alloc (.cells #[.slice none 0 0, .int .i64 (-1), .slice none 0 0] 41) = w2 at hh B2 ⊢
  have hs2 : w.heap.size ≤ w2.heap.size := B2.size
  have HS2 : Hid (WqS w w2 w.heap.size newO) := Lib.hid ⟨_, _, B2, Nat.le_refl _, hh, que_nil _ _ _ _, que_nil _ _ _ _, fun g hg => by cases hg⟩
  obtain ⟨B, hB0⟩ : ∃ B, w.heap.size = B := ⟨_, rfl⟩
  have HS3 : Hid (WqS w w2 B newO) := Lib.hid (hB0 ▸ HS2.out)
  have HB0 := Lib.hid hB0
  rw [hB0]
  clear hh B2 HS2 hB0
  go_upto_region 5 with (first
    | (at_make; refine wpList_make_full _ rfl _ _ 23 rfl w.heap.size 25 i0 _ 1 Try.underlying23 hi hz0 hz1 .i64 .i64 _ _ n rfl rfl rfl rfl hb0 hmx hs2 ?_; intro w3 hown hgrow)
    | fail)
  have L0 : LpP w w3 w2.heap.size B n [] newO := by
    have hb3 : Below w2.heap.size w2 w3 := (Below.refl w2.heap.size w2).grown hgrow (Nat.le_refl _) (fun k hk => by cases hk)
    refine ⟨?_, HS3.out.step hb3, hs2⟩
    obtain ⟨_, h2⟩ := hown
    rcases h2 with ⟨h2, _⟩ | ⟨g, cp, cur, e, _, hc, _, _, hsz, _⟩
    · cases h2
    · simp only [Value.slice.injEq, Option.some.injEq, Addr.mk.injEq, and_true, true_and] at e
      obtain ⟨rfl, rfl⟩ := e
      exact ⟨cur, hc, by simpa using hsz, fun j x hj => by simp at hj⟩
  have H2 := Lib.hid L0
  clear L0 hown hgrow HS3 hs2 HB0
  go_wp2_with fail
  generalize w2.heap.size = E at H2 ⊢
  go_loopw [20] (fun i wr => ∃ k : Nat, k ≤ n ∧ i = .int .i64 k ∧ Hid (LpP w wr E B n (errsO newO (ops.take k)) (runO newO (ops.take k)))) (fun i _ => n - (intOf i).toNat)
  case atStart => exact ⟨0, Nat.zero_le _, rfl, H2⟩
  case round =>
    clear H2
    obtain ⟨k, hk, rfl, HL⟩ := hrel
    have hlen : (errsO newO (ops.take k)).length = k := by rw [errsO_len, List.length_take, hm.out]; omega
    have hall : (allO (runO newO (ops.take k))).length ≤ 400 := by
      have := all_len (ops := ops.take k) good_newO
      rw [List.length_take, hm.out, Nat.min_eq_left hk] at this
      have e0 : (allO newO).length = 0 := rfl
      omega
    have HG := Lib.hid (good_runO (ops := ops.take k) good_newO)
    have HLEN := Lib.hid hlen
    clear hlen
    by_cases hlt : k < n
    · obtain ⟨o, ho⟩ : ∃ o, ops[k]? = some o := ⟨ops[k]'(by rw [hm.out]; exact hlt), List.getElem?_eq_getElem _⟩
      have HNE := Lib.hid (errsO_next ho newO)
      have HNR := Lib.hid (runO_next ho newO)
      obtain ⟨b, off, rfl, hb, e0, e1⟩ := at_wo HA.out ho
      have g0 := (HL.out.b.cell (p := ⟨b, off + k * 2, none⟩) hb).trans e0
      have g1 := (HL.out.b.cell (p := ⟨b, off + k * 2 + 1, none⟩) hb).trans e1
      have hbr : b < wr.heap.size := Nat.lt_of_lt_of_le hb HL.out.b.size
      obtain ⟨kd, id⟩ := o
      simp only at g0 g1
      obtain ⟨st, hst⟩ : ∃ st, runO newO (ops.take k) = st := ⟨_, rfl⟩
      obtain ⟨es, hes⟩ : ∃ es, errsO newO (ops.take k) = es := ⟨_, rfl⟩
      rw [hst] at HL HG hall HNE HNR
      rw [hes] at HL HLEN HNE
      obtain ⟨x, hx⟩ : ∃ x, errO st ⟨kd, id⟩ = x := ⟨_, rfl⟩
      have HX := Lib.hid hx
      have LA := Lib.hid (HL.out.step (below_alloc wr (.cells #[.int .i64 kd, .int .i64 id] 33)))
      have OA := Lib.hid (heap_alloc_new wr (.cells #[.int .i64 kd, .int .i64 id] 33))
      have SA := Lib.hid LA.out.s
      clear e0 e1 ho hst hes hx
      go_upto_region 9 with (first
        | (go_at_call 18; (with_reducible refine (check_W SA kd id hall x HX).mono ?_); rintro e w4 ⟨rfl, hb4⟩; have L4 := Lib.hid (LA.out.step hb4); have O4 := Lib.hid (heap_step OA.out hb4); obtain ⟨⟨z4, cz4⟩, fz4⟩ := L4.out.e.cell hlt; have hE4 := L4.out.e.lt; clear hb4)
        | fail)
      have L5 := Lib.hid (L4.out.setE HLEN.out hlt x)
      have O5 : Hid ((w4.setCell ⟨E, k, none⟩ (.int .i64 x)).heap[wr.heap.size]? = some (.cells #[.int .i64 kd, .int .i64 id] 33 (0, 0))) := Lib.hid ((Below.heap_setCell w4 ⟨E, k, none⟩ (.int .i64 x) wr.heap.size (fun e => by have := HL.out.e.lt; simp only at e; omega)).trans O4.out)
      have HNE2 : Hid (errsO newO (ops.take (k + 1)) = es ++ [x]) := Lib.hid (by rw [HNE.out, HX.out])
      generalize w4.setCell ⟨E, k, none⟩ (.int .i64 x) = w5 at L5 O5 ⊢
      have hxe : (es ++ [x])[k]? = some x := by rw [List.getElem?_append_right (by rw [HLEN.out]; exact Nat.le_refl _), HLEN.out, Nat.sub_self]; rfl
      have cx := L5.out.e.get hxe
      have hE5 := L5.out.e.lt
      obtain ⟨t0, t1⟩ := pair_at O5.out
      have hO5 := heap_lt O5.out
      have S5 := Lib.hid L5.out.s
      clear hxe cz4 fz4 hE4 SA OA LA L4 O4 HNE
      by_cases hx0 : x = 0
      · subst hx0
        have HD : Hid (stepO st ⟨kd, id⟩ = doO st ⟨kd, id⟩) := Lib.hid (by unfold stepO; rw [if_pos HX.out])
        go_wp2_with (first
          | (go_at_call 19; (with_reducible refine (perform_W S5 HG kd id HX.out hall).mono ?_); rintro e w6 ⟨rfl, h6, k6⟩; have L6 := Lib.hid (L5.out.turn h6 k6); clear h6 k6)
          | fail)
        go_roundw
        case rel => exact ⟨k + 1, by omega, by go_num, Lib.hid (by rw [HNE2.out, HNR.out, HD.out]; exact L6.out)⟩
        case measure => simp [intOf]; omega
      · have hxb : (x == 0) = false := by simpa using hx0
        have HD : Hid (stepO st ⟨kd, id⟩ = st) := Lib.hid (by unfold stepO; rw [if_neg (by rw [HX.out]; exact hx0)])
        go_wp2_with fail
        go_roundw
        case rel => exact ⟨k + 1, by omega, by go_num, Lib.hid (by rw [HNE2.out, HNR.out, HD.out]; exact L5.out)⟩
        case measure => simp [intOf]; omega
    · obtain rfl : k = n := by omega
      have e : ops.take k = ops := by rw [← hm.out, List.take_length]
      rw [e] at HL
      obtain ⟨wv, dv, hR⟩ := HL.out.s
      have hwq := hR.wq
      have hdq := hR.dq
      obtain ⟨wa, wc, rfl, hwc, _, _, _⟩ := que_shape hwq
      obtain ⟨da, dc, rfl, hdc, _, _, _⟩ := que_shape hdq
      obtain ⟨c0, c1, c2, hBl⟩ := hR.read
      have HWQ := Lib.hid (que_at hwq)
      have HDQ := Lib.hid (que_at hdq)
      have HE := Lib.hid (err_at HL.out.e k)
      have HB := Lib.hid HL.out.b
      clear hR hwq hdq hlt hk HL
      go_wp2_with fail
      go_quiet (fail)
      go_wp2_with fail
      refine bodyPost_ret (v := .tuple #[.slice (some ⟨E, 0, none⟩) k k, .slice da (runO newO ops).done.length dc, .slice wa (runO newO ops).wait.length wc, .int .i64 (runO newO ops).now, .int .i64 0]) (by simp [results, Try.results8, go_sem]) rfl ?_
      have hd := fun q => below_drewN (Below.refl wr.heap.size wr) q
      exact ⟨E, da, dc, wa, wc, rfl, HE.out.step (hd _), HDQ.out.step (hd _), HWQ.out.step (hd _), hdc, hwc, pstep HB.out (hd _)⟩
end Go.Proofs.Ytlmkbgclogbpfaa
