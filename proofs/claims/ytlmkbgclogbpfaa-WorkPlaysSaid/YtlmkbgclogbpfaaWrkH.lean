/- The walk of corebellref.LPlay. -/
import Derived.Test.YtlmkbgclogbpfaaWrkG
import Derived.Test.YtlmkbgclogbpfaaDelI
import Derived.Test.YtlmkbgclogbpfaaOne
import Derived.Deep.CutRange
import Derived.Deep.CutBlock
namespace Go.Proofs.Ytlmkbgclogbpfaa
open Go.RowKit

/-- What is in memory while LPlay runs: the list (what was begun stands first in it), what is done, the error codes. -/
structure LpL (w wx : World) (F d es : List Int) (lv dv ev : Value) (nF nD nE : Nat) : Prop where
  b : Below w.heap.size w wx
  lq : Que shI wx w.heap.size 3 lv nF F
  dl : d.length = nD
  dq : wx.ownsRow w.heap.size 3 1 dv nD (shI.flat d)
  el : es.length = nE
  eq : wx.ownsRow w.heap.size 25 1 ev nE (shI.flat es)
  ap : ∀ g, lv.ownBlock = some g → dv.ownBlock = some g → False
section
variable {w wx wy : World} {F d es F' d' es' : List Int} {lv dv ev lv' dv' ev' : Value} {nF nD nE n' : Nat}
/-- Rows of different elements lie in different blocks. -/
theorem own_two {base base' e e' size size' k k' : Nat} {v u : Value} {xs ys : List Value} (h : wx.ownsRow base e size v k xs) (h' : wx.ownsRow base' e' size' u k' ys) (hne : ¬ e = e') : ∀ g, v.ownBlock = some g → u.ownBlock = some g → False := by
  intro g hg hu
  obtain ⟨h1, h2⟩ := h
  rcases h2 with ⟨rfl, _⟩ | ⟨g', cap, cur, hv, _, hh, r⟩
  · cases hg
  · rw [hv] at hg
    simp only [Value.ownBlock, Option.some.injEq] at hg
    subst hg
    exact own_ne h' hh hne _ hu rfl
theorem que_two {base base' e e' size' k k' : Nat} {v u : Value} {l : List Int} {ys : List Value} (h : Que shI wx base e v k l) (h' : wx.ownsRow base' e' size' u k' ys) (hne : ¬ e = e') : ∀ g, v.ownBlock = some g → u.ownBlock = some g → False := by
  intro g hg hu
  obtain ⟨h1, h2⟩ := h
  rcases h2 with ⟨rfl, _⟩ | ⟨g', off, cap, cur, hv, _, hh, r⟩
  · cases hg
  · rw [hv] at hg
    simp only [Value.ownBlock, Option.some.injEq] at hg
    subst hg
    exact own_ne h' hh hne _ hu rfl
theorem LpL.step (h : LpL w wx F d es lv dv ev nF nD nE) (hb : Below wx.heap.size wx wy) : LpL w wy F d es lv dv ev nF nD nE :=
  ⟨pstep h.b hb, que_step h.lq hb, h.dl, own_step h.dq hb, h.el, own_step h.eq hb, h.ap⟩
theorem LpL.growL (h : LpL w wx F d es lv dv ev nF nD nE) (hg : wx.grownBy wy lv.ownBlock) (hq : Que shI wy w.heap.size 3 lv' n' F') (hnew : ∀ g, lv'.ownBlock = some g → lv.ownBlock = some g ∨ g = wx.heap.size) : LpL w wy F' d es lv' dv ev n' nD nE :=
  ⟨h.b.grown hg h.b.size (fun _ hk => (que_lt h.lq hk).1), hq, h.dl, own_kept h.dq hg (fun g hg' e => h.ap g e.symm hg'), h.el, own_kept h.eq hg (fun g hg' e => que_two h.lq h.eq (by decide) g e.symm hg'), fun g hg1 hg2 => by
    rcases hnew g hg1 with e | e
    · exact h.ap g e hg2
    · have := (own_lt h.dq hg2).2
      omega⟩
theorem LpL.growD (h : LpL w wx F d es lv dv ev nF nD nE) (hg : wx.grownBy wy dv.ownBlock) (ho : wy.ownsRow w.heap.size 3 1 dv' n' (shI.flat d')) (hl : d'.length = n') (hnew : ∀ g, dv'.ownBlock = some g → dv.ownBlock = some g ∨ g = wx.heap.size) : LpL w wy F d' es lv dv' ev nF n' nE :=
  ⟨h.b.grown hg h.b.size (fun _ hk => (own_lt h.dq hk).1), que_kept h.lq hg (fun g hg' e => h.ap g hg' e.symm), hl, ho, h.el, own_kept h.eq hg (fun g hg' e => own_two h.dq h.eq (by decide) g e.symm hg'), fun g hg1 hg2 => by
    rcases hnew g hg2 with e | e
    · exact h.ap g hg1 e
    · have := (que_lt h.lq hg1).2
      omega⟩
theorem LpL.growE (h : LpL w wx F d es lv dv ev nF nD nE) (hg : wx.grownBy wy ev.ownBlock) (ho : wy.ownsRow w.heap.size 25 1 ev' n' (shI.flat es')) (hl : es'.length = n') : LpL w wy F d es' lv dv ev' nF nD n' :=
  ⟨h.b.grown hg h.b.size (fun _ hk => (own_lt h.eq hk).1), que_kept h.lq hg (fun g hg' e => que_two h.lq h.eq (by decide) g hg' e.symm), h.dl, own_kept h.dq hg (fun g hg' e => own_two h.dq h.eq (by decide) g hg' e.symm), hl, ho, h.ap⟩
/-- The list is another part of its block, or another row altogether. -/
theorem LpL.cutL (h : LpL w wx F d es lv dv ev nF nD nE) (hq : Que shI wx w.heap.size 3 lv' n' F') (ho : ∀ g, lv'.ownBlock = some g → lv.ownBlock = some g) : LpL w wx F' d es lv' dv ev n' nD nE :=
  ⟨h.b, hq, h.dl, h.dq, h.el, h.eq, fun g h1 h2 => h.ap g (ho g h1) h2⟩
theorem LpL.newL (h : LpL w wx F d es lv dv ev nF nD nE) (hb : Below wx.heap.size wx wy) (hq : Que shI wy wx.heap.size 3 lv' n' F') : LpL w wy F' d es lv' dv ev n' nD nE := by
  have h' := h.step hb
  exact ⟨h'.b, que_base hq h.b.size, h'.dl, h'.dq, h'.el, h'.eq, fun g h1 h2 => by
    have := (que_lt hq h1).1
    have := (own_lt h.dq h2).2
    omega⟩
end
/-- Whether the first one of the list was begun. -/
def onO (s : StO) : Nat := if s.now = -1 then 0 else 1
theorem full_len (s : StO) : (fullO s).length = s.wait.length + onO s := by
  unfold fullO onO
  by_cases h : s.now = -1
  · rw [if_pos h, if_pos h]; simp
  · rw [if_neg h, if_neg h]; simp
theorem full_drop (s : StO) : (fullO s).drop (onO s) = s.wait := by
  unfold fullO onO
  by_cases h : s.now = -1
  · rw [if_pos h, if_pos h]; rfl
  · rw [if_neg h, if_neg h]; rfl
theorem full_cancel {s : StO} (hg : GoodO s) {j : Nat} {i : Int} (hj : s.wait[j]? = some i) : fullO ⟨s.done, s.now, s.wait.filter fun y => decide (¬ y = i)⟩ = (fullO s).take (j + onO s) ++ (fullO s).drop (j + onO s + 1) := by
  have h := filter_cut hg.nod hj
  unfold fullO onO
  by_cases hn : s.now = -1
  · rw [if_pos hn, if_pos hn]
    exact h.symm
  · rw [if_neg hn, if_neg hn]
    show s.now :: s.wait.filter _ = s.now :: (s.wait.take j ++ s.wait.drop (j + 1))
    rw [h]
theorem begin_full {s : StO} (hg : GoodO s) (hn : s.now = -1) (hw : ¬ s.wait = []) : onO (beginO s) = 1 ∧ fullO (beginO s) = fullO s := by
  obtain ⟨d, c, w⟩ := s
  simp only at hn hw
  subst hn
  cases w with
  | nil => exact absurd rfl hw
  | cons x r =>
    have hx : ¬ x = -1 := by
      have := hg.rng x List.mem_cons_self
      omega
    simp [onO, fullO, beginO, hx]
/-- Where somebody stands first, as a number. -/
def IdxO (l : List Int) (v r : Int) : Prop := (r = -1 ∧ ¬ v ∈ l) ∨ ∃ k : Nat, r = (k : Int) ∧ k < l.length ∧ l[k]? = some v ∧ ∀ j : Nat, j < k → ¬ l[j]? = some v
theorem idx_is (l : List Int) (v : Int) : ∃ r, IdxO l v r := by
  by_cases h : v ∈ l
  · obtain ⟨k, h1, h2⟩ := first_at h
    exact ⟨k, Or.inr ⟨k, rfl, (List.getElem?_eq_some_iff.1 h1).1, h1, h2⟩⟩
  · exact ⟨-1, Or.inl ⟨rfl, h⟩⟩
theorem index_any {n : Nat} {l : List Int} {v r : Int} (hl : Hid (l.length = n)) (hn : n ≤ 9223372036854775807) (hr : Hid (IdxO l v r)) (ad : Option Addr) (cap : Nat) (w1 : World) (HA : shI.At w1 ad cap l) :
    Calls Try.prog 20 #[.slice ad n cap, .int .i64 v] w1 fun e w' => e = .returned (.int .i64 r) ∧ w' = w1 := by
  rcases hr.out with ⟨rfl, h⟩ | ⟨k, rfl, _, h1, h2⟩
  · refine (index_F v w1 (Lib.hid (IntAt.of HA hl.out)) hn).mono ?_
    rintro e w' ⟨r, hr', rfl, rfl⟩
    refine ⟨?_, rfl⟩
    rcases hr' with ⟨rfl, _⟩ | ⟨i, hi, rfl, hv, _⟩
    · rfl
    · exact absurd ((mem_fn hl.out v).2 ⟨i, hi, hv⟩) h
  · exact index_quiet v hl hn k (Lib.hid h1) (Lib.hid h2) ad cap w1 HA
def BadR (e : Ending) : Prop := e = .returned (.tuple #[.slice none 0 0, .slice none 0 0, .slice none 0 0, .int .i64 0, .int .i64 2])
set_option maxHeartbeats 1000000 in
set_option maxRecDepth 100000 in
theorem ref_bad (ad : Option Addr) (cap n : Nat) (w : World) (h : 400 < n) (hn : n ≤ 9223372036854775807) :
    Calls Try.prog 9 #[.slice ad n cap] w fun e w' => BadL e ∧ w = w' := by
  have hd : decide ((400 : Int) < (n : Int)) = true := decide_eq_true (by omega)
  go_enter Try.func9, Try.ntmps9
  go_wp2_with fail
  refine bodyPost_ret (v := .tuple #[.slice none 0 0, .slice none 0 0, .slice none 0 0, .int .i64 0, .int .i64 2]) (by simp [results, Try.results9, go_sem]) rfl ?_
  exact ⟨rfl, rfl⟩
def RefOut (w : World) (n : Nat) (es : List Int) (s : StO) (e : Ending) (w' : World) : Prop :=
  ∃ ea ec da dc wa wc, e = .returned (.tuple #[.slice ea n ec, .slice da s.done.length dc, .slice wa s.wait.length wc, .int .i64 s.now, .int .i64 0]) ∧ shI.At w' ea ec es ∧ shI.At w' da dc s.done ∧ shI.At w' wa wc s.wait ∧ Below w.heap.size w w'
set_option maxHeartbeats 8000000 in
set_option maxRecDepth 100000 in
theorem ref_ok {ad : Option Addr} {cap n : Nat} {ops : List WoT} (w : World) (HA : Hid (shO.At w ad cap ops)) (hm : Hid (ops.length = n)) (hn : n ≤ 400) :
    Calls Try.prog 9 #[.slice ad n cap] w (RefOut w n (errsO newO ops) (runO newO ops)) := by
  obtain ⟨i0, hi, hz0, hz1, hz2⟩ := info_parts info_int
  obtain ⟨j0, ji, jz0, jz1, jz2⟩ := info_parts info_errno
  have hd : decide ((400 : Int) < (n : Int)) = false := decide_eq_false (by omega)
  go_enter Try.func9, Try.ntmps9
  go_wp2_with fail
  go_loopw [7, 8, 9, 10, 24] (fun lv dv on ev i wr => ∃ (k nF nD : Nat) (la : Option Addr) (lc : Nat) (da : Option Addr) (dc : Nat) (ea : Option Addr) (ec : Nat), k ≤ n ∧ i = .int .i64 k ∧ lv = .slice la nF lc ∧ dv = .slice da nD dc ∧ ev = .slice ea k ec ∧ on = .int .i64 (onO (runO newO (ops.take k)) : Nat) ∧ Hid (LpL w wr (fullO (runO newO (ops.take k))) (runO newO (ops.take k)).done (errsO newO (ops.take k)) (.slice la nF lc) (.slice da nD dc) (.slice ea k ec) nF nD k)) (fun _ _ _ _ i _ => n - (intOf i).toNat)
  case atStart => exact ⟨0, 0, 0, none, 0, none, 0, none, 0, Nat.zero_le _, rfl, rfl, rfl, rfl, rfl, Lib.hid ⟨Below.refl _ _, que_nil _ _ _ _, rfl, World.ownsRow_nil _ _ _ _, rfl, World.ownsRow_nil _ _ _ _, fun g hg => by cases hg⟩⟩
  case round =>
    obtain ⟨k, nF, nD, la, lc, da, dc, ea, ec, hk, rfl, rfl, rfl, rfl, rfl, HL⟩ := hrel
    by_cases hlt : k < n
    · obtain ⟨o, ho⟩ : ∃ o, ops[k]? = some o := ⟨ops[k]'(by rw [hm.out]; exact hlt), List.getElem?_eq_getElem _⟩
      have HNE := Lib.hid (errsO_next ho newO)
      have HNR := Lib.hid (runO_next ho newO)
      have HG := Lib.hid (good_runO (ops := ops.take k) good_newO)
      have hall : (allO (runO newO (ops.take k))).length ≤ 400 := by
        have := all_len (ops := ops.take k) good_newO
        rw [List.length_take, hm.out, Nat.min_eq_left hk] at this
        have e0 : (allO newO).length = 0 := rfl
        omega
      obtain ⟨st, hst⟩ : ∃ st, runO newO (ops.take k) = st := ⟨_, rfl⟩
      obtain ⟨es, hes⟩ : ∃ es, errsO newO (ops.take k) = es := ⟨_, rfl⟩
      rw [hst] at HL HG hall HNE HNR
      simp only [hst]
      rw [hes] at HL HNE
      obtain ⟨b, off, rfl, hb, e0, e1⟩ := at_wo HA.out ho
      have g0 := (HL.out.b.cell (p := ⟨b, off + k * 2, none⟩) hb).trans e0
      have g1 := (HL.out.b.cell (p := ⟨b, off + k * 2 + 1, none⟩) hb).trans e1
      have hbr : b < wr.heap.size := Nat.lt_of_lt_of_le hb HL.out.b.size
      obtain ⟨kd, id⟩ := o
      simp only at g0 g1
      obtain ⟨X, hX⟩ : ∃ X, wr.alloc (.cells #[.int .i64 kd, .int .i64 id] 33) = X := ⟨_, rfl⟩
      have BX := below_alloc wr (.cells #[.int .i64 kd, .int .i64 id] 33)
      have hh := heap_alloc_new wr (.cells #[.int .i64 kd, .int .i64 id] 33)
      rw [hX] at BX hh
      have LX := Lib.hid (HL.out.step BX)
      have HH := Lib.hid hh
      obtain ⟨t0, t1⟩ := pair_at hh
      have hxl := heap_lt hh
      clear e0 e1 ho hst hes BX HL hh
      obtain ⟨q, hq⟩ : ∃ q, onO st = q := ⟨_, rfl⟩
      have hq1 : q ≤ 1 := by rw [← hq]; unfold onO; split <;> omega
      have hfl := full_len st
      have hfd := full_drop st
      rw [hq] at hfl hfd
      have hnF : nF = st.wait.length + q := by rw [← hfl, que_len LX.out.lq]
      have hwl := wait_le st
      obtain ⟨r, hr⟩ := idx_is st.wait id
      have hrr : -1 ≤ r ∧ r ≤ 400 := by
        rcases hr with ⟨h, _⟩ | ⟨j, h, hj, _⟩ <;> omega
      have hwr : IntKind.i64.wrap (r + (q : Int)) = r + (q : Int) := by rw [IntKind.wrap_i64]; omega
      obtain ⟨pa, hpa⟩ : ∃ pa, r + (q : Int) = pa := ⟨_, rfl⟩
      have HPA := Lib.hid hpa
      have HIX := Lib.hid hr
      have HFD := Lib.hid hfd
      have HON := Lib.hid hq
      have HNF := Lib.hid hnF
      have hq0 : (0 : Int) ≤ (q : Int) := by omega
      have hqn : (q : Int) ≤ (nF : Int) := by omega
      have hqn2 : q ≤ nF := by omega
      simp only [hq]
      clear hr hfl hfd hq hnF hpa
      go_upto_region 10 with fail
      clear hX
      go_cut [14] from 28 to 35 (fun a wy => a = .int .i64 pa ∧ Hid (LpL w wy (fullO st) st.done es (.slice la nF lc) (.slice da nD dc) (.slice ea k ec) nF nD k) ∧ Hid (wy.heap[wr.heap.size]? = some (.cells #[.int .i64 kd, .int .i64 id] 33 (0, 0))))
      case first =>
        as_aux_lemma =>
          obtain ⟨ad1, cap1, hv1, hnc, _, hz, ha⟩ := que_shape LX.out.lq
          simp only [Value.slice.injEq, true_and] at hv1
          obtain ⟨rfl, rfl⟩ := hv1
          by_cases hlc : lc = q
          · subst hlc
            obtain rfl : nF = lc := by omega
            have hw0 : st.wait = [] := List.eq_nil_of_length_eq_zero (by have := HNF.out; omega)
            have hA0 : ∀ w1, shI.At w1 la 0 ([] : List Int) := fun w1 => by
              cases la with
              | none => exact Shape.At.nil w1
              | some a => exact at_void w1 a 0
            have HI := Lib.hid (fun w1 => index_any (n := 0) (l := []) (v := id) (r := r) (Lib.hid rfl) (by omega) (Lib.hid (hw0 ▸ HIX.out)) la 0 w1 (hA0 w1))
            have hse : nF - nF = 0 := Nat.sub_self _
            clear hz ha hw0 hA0
            go_wp2_with fail
            go_quiet ((go_at_call 20; exact Calls.quiet_of_same (HI.out _)))
            go_wp2_with fail
            go_meet
            exact ⟨by rw [HPA.out], Lib.hid (LX.out.step (below_drewN (Below.refl _ _) _)), Lib.hid (heap_step HH.out (below_drewN (Below.refl _ _) _))⟩
          · have hlc2 : ¬ q = lc := fun e => hlc e.symm
            obtain ⟨g, lo, rfl⟩ : ∃ g lo, la = some ⟨g, lo, none⟩ := by
              cases la with
              | none => obtain ⟨h1, h2⟩ := hz rfl; omega
              | some a => obtain ⟨g, lo, rfl, _⟩ := ha a rfl; exact ⟨g, lo, rfl⟩
            have hAt := at_drop (que_at LX.out.lq) q (lc - q) (by rw [que_len LX.out.lq]; exact hqn2)
            rw [HFD.out, show q * shI.size = q from Nat.mul_one q] at hAt
            have HAt := Lib.hid hAt
            have HI := Lib.hid (fun w1 (hA : shI.At w1 (some ⟨g, lo + q, none⟩) (lc - q) st.wait) => index_any (n := nF - q) (l := st.wait) (v := id) (r := r) (Lib.hid (by have := HNF.out; omega)) (by have := HNF.out; omega) HIX _ _ w1 hA)
            clear hz ha hAt
            go_wp2_with fail
            go_quiet ((go_at_call 20; exact Calls.quiet_of_same (HI.out _ (HAt.out.step (below_drewN (Below.refl _ _) _)))))
            go_wp2_with fail
            go_meet
            exact ⟨by rw [HPA.out], Lib.hid (LX.out.step (below_drewN (Below.refl _ _) _)), Lib.hid (heap_step HH.out (below_drewN (Below.refl _ _) _))⟩
      case rest =>
        obtain ⟨rfl, LC, HC⟩ := hcut
        obtain ⟨t0, t1⟩ := pair_at HC.out
        have hxl := heap_lt HC.out
        obtain ⟨x, hx⟩ : ∃ x, errO st ⟨kd, id⟩ = x := ⟨_, rfl⟩
        obtain ⟨s2, hs2⟩ : ∃ t, stepO st ⟨kd, id⟩ = t := ⟨_, rfl⟩
        rw [hx] at HNE
        rw [hs2] at HNR
        clear LX HH
        go_upto_block 2 with fail
        go_cut [7, 8, 9, 13, 15, 16, 17] from 36 to 167 (fun lv dv on e _ _ _ wy => ∃ (nF' nD' : Nat) (la' : Option Addr) (lc' : Nat) (da' : Option Addr) (dc' : Nat), lv = .slice la' nF' lc' ∧ dv = .slice da' nD' dc' ∧ on = .int .i64 (onO s2 : Nat) ∧ e = .int .i64 x ∧ Hid (LpL w wy (fullO s2) s2.done es (.slice la' nF' lc') (.slice da' nD' dc') (.slice ea k ec) nF' nD' k))
        case first =>
          clear HNE HNR
          obtain ⟨ad1, cap1, hv1, hnc, hcm, hz, ha⟩ := que_shape LC.out.lq
          simp only [Value.slice.injEq, true_and] at hv1
          obtain ⟨rfl, rfl⟩ := hv1
          have hnD : nD ≤ 400 := by rw [← LC.out.dl]; have := done_le st; omega
          have hnF9 : nF ≤ 401 := by have := HNF.out; omega
          by_cases kl : kd < 1
          · as_aux_lemma =>
              have hx2 : errO st ⟨kd, id⟩ = 5 := by simp [errO, kl]
              have hs2' : stepO st ⟨kd, id⟩ = st := by unfold stepO; rw [if_neg (by rw [hx2]; decide)]
              rw [hx2] at hx
              rw [hs2'] at hs2
              subst hx hs2
              clear hx2 hs2'
              go_wp2_with fail
              go_meet
              exact ⟨_, nD, la, lc, da, dc, rfl, rfl, (by rw [HON.out] <;> rfl), rfl, LC⟩
          by_cases kg : 5 < kd
          · as_aux_lemma =>
              have hx2 : errO st ⟨kd, id⟩ = 5 := by simp [errO, kg]
              have hs2' : stepO st ⟨kd, id⟩ = st := by unfold stepO; rw [if_neg (by rw [hx2]; decide)]
              rw [hx2] at hx
              rw [hs2'] at hs2
              subst hx hs2
              clear hx2 hs2'
              go_wp2_with fail
              go_meet
              exact ⟨_, nD, la, lc, da, dc, rfl, rfl, (by rw [HON.out] <;> rfl), rfl, LC⟩
          have hk5 : kd = 2 ∨ kd = 3 ∨ kd = 1 ∨ kd = 4 ∨ kd = 5 := by omega
          rcases hk5 with rfl | rfl | hk5
          · as_aux_lemma =>
              by_cases hnow : st.now = -1
              · obtain rfl : q = 0 := by rw [← HON.out]; unfold onO; rw [if_pos hnow]
                by_cases hw0 : st.wait = []
                · obtain rfl : nF = 0 := by rw [HNF.out, hw0]; rfl
                  have hx2 : errO st ⟨2, id⟩ = 3 := by simp [errO, hnow, hw0]
                  have hs2' : stepO st ⟨2, id⟩ = st := by unfold stepO; rw [if_neg (by rw [hx2]; decide)]
                  rw [hx2] at hx
                  rw [hs2'] at hs2
                  subst hx hs2
                  clear hx2 hs2'
                  go_wp2_with fail
                  go_meet
                  exact ⟨_, nD, la, lc, da, dc, rfl, rfl, (by rw [HON.out] <;> rfl), rfl, LC⟩
                · have hF0 : ¬ nF = 0 := fun e => hw0 (List.eq_nil_of_length_eq_zero (by have := HNF.out; omega))
                  have hF1 : ¬ (nF : Int) = 0 := by omega
                  have hb1 : onO (beginO st) = 1 ∧ fullO (beginO st) = fullO st := begin_full HG.out hnow hw0
                  have HB1 := Lib.hid hb1
                  clear hb1
                  have hx2 : errO st ⟨2, id⟩ = 0 := by simp [errO, hnow, hw0]
                  have hs2' : stepO st ⟨2, id⟩ = beginO st := by unfold stepO; rw [if_pos hx2]; rfl
                  rw [hx2] at hx
                  rw [hs2'] at hs2
                  subst hx hs2
                  clear hx2 hs2'
                  go_wp2_with fail
                  go_meet
                  exact ⟨nF, nD, la, lc, da, dc, rfl, rfl, by rw [HB1.out.1]; rfl, rfl, Lib.hid (by rw [HB1.out.2]; exact LC.out)⟩
              · obtain rfl : q = 1 := by rw [← HON.out]; unfold onO; rw [if_neg hnow]
                have hx2 : errO st ⟨2, id⟩ = 6 := by simp [errO, hnow]
                have hs2' : stepO st ⟨2, id⟩ = st := by unfold stepO; rw [if_neg (by rw [hx2]; decide)]
                rw [hx2] at hx
                rw [hs2'] at hs2
                subst hx hs2
                clear hx2 hs2'
                go_wp2_with fail
                go_meet
                exact ⟨_, nD, la, lc, da, dc, rfl, rfl, (by rw [HON.out] <;> rfl), rfl, LC⟩
          · by_cases hnow : st.now = -1
            · obtain rfl : q = 0 := by rw [← HON.out]; unfold onO; rw [if_pos hnow]
              have hx2 : errO st ⟨3, id⟩ = 3 := by simp [errO, hnow]
              have hs2' : stepO st ⟨3, id⟩ = st := by unfold stepO; rw [if_neg (by rw [hx2]; decide)]
              rw [hx2] at hx
              rw [hs2'] at hs2
              subst hx hs2
              clear hx2 hs2'
              go_wp2_with fail
              go_meet
              exact ⟨_, nD, la, lc, da, dc, rfl, rfl, (by rw [HON.out] <;> rfl), rfl, LC⟩
            · obtain rfl : q = 1 := by rw [← HON.out]; unfold onO; rw [if_neg hnow]
              obtain ⟨c, hc⟩ : ∃ c, st.now = c := ⟨_, rfl⟩
              have hF : fullO st = c :: st.wait := by unfold fullO; rw [if_neg hnow, hc]; rfl
              obtain ⟨wn, hwn⟩ : ∃ wn, st.wait.length = wn := ⟨_, rfl⟩
              have HNX := HNF.out
              rw [hwn] at HNX
              subst HNX
              have LF := LC.out
              rw [hF] at LF
              have LCF := Lib.hid LF
              obtain ⟨g, lo, rfl, hgl, cl⟩ := at_int (que_at LF.lq) (k := 0) (x := c) rfl
              rw [Nat.add_zero] at cl
              have hQ := LF.lq
              have BA : Below wc.heap.size wc (wc.alloc (.cells #[.int .i64 c] 3)).drew := (below_alloc wc _).drew
              have XA := Lib.hid (LF.step BA)
              have HM := Lib.hid LF.dl
              have NA : Hid (shI.At (wc.alloc (.cells #[.int .i64 c] 3)).drew (some ⟨wc.heap.size, 0, none⟩) 1 [c]) := Lib.hid (int_lit wc c 1)
              have hbs : w.heap.size ≤ (wc.alloc (.cells #[.int .i64 c] 3)).drew.heap.size := XA.out.b.size
              have hm0 : (0 : Int) < ((wn + 1 : Nat) : Int) := by omega
              have hmd : decide (0 < wn + 1) = true := decide_eq_true (by omega)
              have hc4 : (1 : Int) ≤ (wn : Int) + 1 := by omega
              have HWN := Lib.hid hwn
              have hE1 : Hid (fullO (endO st) = st.wait ∧ onO (endO st) = 0 ∧ (endO st).done = st.done ++ [c]) := Lib.hid ⟨rfl, rfl, by rw [← hc]; rfl⟩
              have HC2 := Lib.hid hc
              have hx2 : errO st ⟨3, id⟩ = 0 := by simp [errO, hnow]
              have hs2' : stepO st ⟨3, id⟩ = endO st := by unfold stepO; rw [if_pos hx2]; rfl
              rw [hx2] at hx
              rw [hs2'] at hs2
              subst hx hs2
              clear hx2 hs2'
              clear LF hF hQ HC2 hc hwn
              by_cases hc1 : lc = 1
              · subst hc1
                obtain rfl : wn = 0 := by omega
                have HW0 : Hid (st.wait = []) := Lib.hid (List.eq_nil_of_length_eq_zero HWN.out)
                go_wp2_with fail
                go_region_law (first
                  | (refine step_append_n shI rfl _ _ 24 rfl w.heap.size 3 i0 _ 8 Try.underlying24 hi hz0 hz1 hz2 rfl (.slice da nD dc) nD st.done [c] HM rfl XA.out.dq (some ⟨wc.heap.size, 0, none⟩) 1 1 rfl (Lib.hid rfl) NA.out (by unfold maxLen; omega) (by omega) hbs ?_; intro ra4 rc4 w4 own4 grow4 new4; have L4 := Lib.hid (XA.out.growD grow4 own4 (by rw [List.length_append, HM.out]; rfl) new4); clear own4 grow4 new4)
                  | fail)
                all_goals go_wp2_with fail
                all_goals go_meet
                all_goals exact ⟨0, nD + 1, _, 0, ra4, rc4, rfl, rfl, by rw [hE1.out.2.1]; rfl, rfl, Lib.hid (by rw [hE1.out.1, hE1.out.2.2, HW0.out]; exact L4.out.cutL (que_end L4.out.lq) (fun _ h => h))⟩
              · have hc2 : decide (1 = lc) = false := decide_eq_false (fun e => hc1 e.symm)
                have hc3 : 1 ≤ wn + 1 := by omega
                go_wp2_with fail
                go_region_law (first
                  | (refine step_append_n shI rfl _ _ 24 rfl w.heap.size 3 i0 _ 8 Try.underlying24 hi hz0 hz1 hz2 rfl (.slice da nD dc) nD st.done [c] HM rfl XA.out.dq (some ⟨wc.heap.size, 0, none⟩) 1 1 rfl (Lib.hid rfl) NA.out (by unfold maxLen; omega) (by omega) hbs ?_; intro ra4 rc4 w4 own4 grow4 new4; have L4 := Lib.hid (XA.out.growD grow4 own4 (by rw [List.length_append, HM.out]; rfl) new4); clear own4 grow4 new4)
                  | fail)
                all_goals go_wp2_with fail
                all_goals go_meet
                all_goals exact ⟨wn + 1 - 1, nD + 1, some ⟨g, lo + 1, none⟩, lc - 1, ra4, rc4, rfl, rfl, by rw [hE1.out.2.1]; rfl, rfl, Lib.hid (by rw [hE1.out.1, hE1.out.2.2]; exact L4.out.cutL (que_drop L4.out.lq 1 hc3) (fun _ h => h))⟩
          · by_cases hlo : id < 0
            · rcases hk5 with rfl | rfl | rfl
              · as_aux_lemma =>
                  have hx2 : errO st ⟨1, id⟩ = 2 := by simp [errO]; omega
                  have hs2' : stepO st ⟨1, id⟩ = st := by unfold stepO; rw [if_neg (by rw [hx2]; decide)]
                  rw [hx2] at hx
                  rw [hs2'] at hs2
                  subst hx hs2
                  clear hx2 hs2'
                  go_wp2_with fail
                  go_meet
                  exact ⟨_, nD, la, lc, da, dc, rfl, rfl, (by rw [HON.out] <;> rfl), rfl, LC⟩
              · as_aux_lemma =>
                  have hx2 : errO st ⟨4, id⟩ = 2 := by simp [errO]; omega
                  have hs2' : stepO st ⟨4, id⟩ = st := by unfold stepO; rw [if_neg (by rw [hx2]; decide)]
                  rw [hx2] at hx
                  rw [hs2'] at hs2
                  subst hx hs2
                  clear hx2 hs2'
                  go_wp2_with fail
                  go_meet
                  exact ⟨_, nD, la, lc, da, dc, rfl, rfl, (by rw [HON.out] <;> rfl), rfl, LC⟩
              · as_aux_lemma =>
                  have hx2 : errO st ⟨5, id⟩ = 2 := by simp [errO]; omega
                  have hs2' : stepO st ⟨5, id⟩ = st := by unfold stepO; rw [if_neg (by rw [hx2]; decide)]
                  rw [hx2] at hx
                  rw [hs2'] at hs2
                  subst hx hs2
                  clear hx2 hs2'
                  go_wp2_with fail
                  go_meet
                  exact ⟨_, nD, la, lc, da, dc, rfl, rfl, (by rw [HON.out] <;> rfl), rfl, LC⟩
            by_cases hhi : 99 < id
            · rcases hk5 with rfl | rfl | rfl
              · as_aux_lemma =>
                  have hx2 : errO st ⟨1, id⟩ = 2 := by simp [errO]; omega
                  have hs2' : stepO st ⟨1, id⟩ = st := by unfold stepO; rw [if_neg (by rw [hx2]; decide)]
                  rw [hx2] at hx
                  rw [hs2'] at hs2
                  subst hx hs2
                  clear hx2 hs2'
                  go_wp2_with fail
                  go_meet
                  exact ⟨_, nD, la, lc, da, dc, rfl, rfl, (by rw [HON.out] <;> rfl), rfl, LC⟩
              · as_aux_lemma =>
                  have hx2 : errO st ⟨4, id⟩ = 2 := by simp [errO]; omega
                  have hs2' : stepO st ⟨4, id⟩ = st := by unfold stepO; rw [if_neg (by rw [hx2]; decide)]
                  rw [hx2] at hx
                  rw [hs2'] at hs2
                  subst hx hs2
                  clear hx2 hs2'
                  go_wp2_with fail
                  go_meet
                  exact ⟨_, nD, la, lc, da, dc, rfl, rfl, (by rw [HON.out] <;> rfl), rfl, LC⟩
              · as_aux_lemma =>
                  have hx2 : errO st ⟨5, id⟩ = 2 := by simp [errO]; omega
                  have hs2' : stepO st ⟨5, id⟩ = st := by unfold stepO; rw [if_neg (by rw [hx2]; decide)]
                  rw [hx2] at hx
                  rw [hs2'] at hs2
                  subst hx hs2
                  clear hx2 hs2'
                  go_wp2_with fail
                  go_meet
                  exact ⟨_, nD, la, lc, da, dc, rfl, rfl, (by rw [HON.out] <;> rfl), rfl, LC⟩
            have hF9 : nF ≤ 401 := hnF9
            rcases hk5 with rfl | rfl | rfl
            · as_aux_lemma =>
                rcases HIX.out with ⟨hr1, hni⟩ | ⟨j, hrj, hjl, hj1, hj2⟩
                · have hge : decide ((q : Int) ≤ pa) = false := decide_eq_false (by have := HPA.out; omega)
                  have BA : Below wc.heap.size wc (wc.alloc (.cells #[.int .i64 id] 3)) := below_alloc wc _
                  have XA := Lib.hid (LC.out.step BA)
                  have HM := Lib.hid (que_len XA.out.lq)
                  have NA : Hid (shI.At (wc.alloc (.cells #[.int .i64 id] 3)) (some ⟨wc.heap.size, 0, none⟩) 1 [id]) := Lib.hid (int_lit wc id 1)
                  have hbs : w.heap.size ≤ (wc.alloc (.cells #[.int .i64 id] 3)).heap.size := XA.out.b.size
                  have hE1 : Hid (fullO ⟨st.done, st.now, st.wait ++ [id]⟩ = fullO st ++ [id] ∧ onO ⟨st.done, st.now, st.wait ++ [id]⟩ = onO st) := Lib.hid ⟨by unfold fullO; rw [List.append_assoc], rfl⟩
                  have hx2 : errO st ⟨1, id⟩ = 0 := by simp [errO, hlo, hhi, hni]
                  have hs2' : stepO st ⟨1, id⟩ = ⟨st.done, st.now, st.wait ++ [id]⟩ := by unfold stepO; rw [if_pos hx2]; rfl
                  rw [hx2] at hx
                  rw [hs2'] at hs2
                  subst hx hs2
                  clear hx2 hs2'
                  clear BA hni hr1
                  go_wp2_with (first
                    | (at_builtin; refine wpList_append_que shI rfl _ _ 24 rfl w.heap.size 3 i0 _ 8 Try.underlying24 hi hz0 hz1 hz2 rfl (.slice la nF lc) nF (fullO st) [id] rfl XA.out.lq (some ⟨wc.heap.size, 0, none⟩) 1 1 rfl (Lib.hid rfl) NA.out (by unfold maxLen; omega) (by omega) hbs ?_; intro ra4 rc4 w4 own4 grow4 new4; have L4 := Lib.hid (XA.out.growL grow4 own4 new4); clear own4 grow4 new4)
                    | fail)
                  go_meet
                  exact ⟨nF + 1, nD, ra4, rc4, da, dc, rfl, rfl, (by rw [hE1.out.2, HON.out] <;> rfl), rfl, Lib.hid (by rw [hE1.out.1]; exact L4.out)⟩
                · have hmem : id ∈ st.wait := List.mem_of_getElem? hj1
                  have hge : decide ((q : Int) ≤ pa) = true := decide_eq_true (by have := HPA.out; omega)
                  have hx2 : errO st ⟨1, id⟩ = 6 := by simp [errO, hlo, hhi, hmem]
                  have hs2' : stepO st ⟨1, id⟩ = st := by unfold stepO; rw [if_neg (by rw [hx2]; decide)]
                  rw [hx2] at hx
                  rw [hs2'] at hs2
                  subst hx hs2
                  clear hx2 hs2'
                  go_wp2_with fail
                  go_meet
                  exact ⟨_, nD, la, lc, da, dc, rfl, rfl, (by rw [HON.out] <;> rfl), rfl, LC⟩
            · rcases HIX.out with ⟨hr1, hni⟩ | ⟨j, hrj, hjl, hj1, hj2⟩
              · have hge : decide (pa < (q : Int)) = true := decide_eq_true (by have := HPA.out; omega)
                have hx2 : errO st ⟨4, id⟩ = 3 := by simp [errO, hlo, hhi, hni]
                have hs2' : stepO st ⟨4, id⟩ = st := by unfold stepO; rw [if_neg (by rw [hx2]; decide)]
                rw [hx2] at hx
                rw [hs2'] at hs2
                subst hx hs2
                clear hx2 hs2'
                go_wp2_with fail
                go_meet
                exact ⟨_, nD, la, lc, da, dc, rfl, rfl, (by rw [HON.out] <;> rfl), rfl, LC⟩
              · have hmem : id ∈ st.wait := List.mem_of_getElem? hj1
                obtain ⟨p, hp⟩ : ∃ p, j + q = p := ⟨_, rfl⟩
                have hfc := full_cancel HG.out hj1
                rw [HON.out, hp] at hfc
                obtain rfl : pa = (p : Int) := by have := HPA.out; omega
                have hge : decide ((p : Int) < (q : Int)) = false := decide_eq_false (by omega)
                have hge2 : decide (p < q) = false := decide_eq_false (by omega)
                have hge3 : ¬ p < q := by omega
                have hpn : p + 1 ≤ nF := by have := HNF.out; omega
                have HFC := Lib.hid hfc
                have hx2 : errO st ⟨4, id⟩ = 0 := by simp [errO, hlo, hhi, hmem]
                have hs2' : stepO st ⟨4, id⟩ = ⟨st.done, st.now, st.wait.filter fun y => decide (¬ y = id)⟩ := by unfold stepO; rw [if_pos hx2]; rfl
                rw [hx2] at hx
                rw [hs2'] at hs2
                subst hx hs2
                clear hx2 hs2'
                obtain ⟨g, lo, rfl⟩ : ∃ g lo, la = some ⟨g, lo, none⟩ := by
                  cases la with
                  | none => obtain ⟨h1, h2⟩ := hz rfl; omega
                  | some a => obtain ⟨g, lo, rfl, _⟩ := ha a rfl; exact ⟨g, lo, rfl⟩
                have hF := que_at LC.out.lq
                have hFl := que_len LC.out.lq
                have BA : Below wc.heap.size wc (wc.alloc (.cells #[] 3)).drew := (below_alloc wc _).drew
                have N0 : Hid ((wc.alloc (.cells #[] 3)).drew.ownsRow wc.heap.size 3 1 (.slice (some ⟨wc.heap.size, 0, none⟩) 0 0) 0 []) := Lib.hid (own_new wc 3 wc.heap.size (Nat.le_refl _))
                have TA := Lib.hid ((hF.step BA).take p)
                have HTL : Hid (((fullO st).take p).length = p) := Lib.hid (by rw [List.length_take, hFl]; omega)
                have HDn : Hid (((fullO st).drop (p + 1)).length = nF - (p + 1)) := Lib.hid (by rw [List.length_drop, hFl])
                have HLn : Hid (((fullO st).take p ++ (fullO st).drop (p + 1)).length = p + (nF - (p + 1))) := Lib.hid (by rw [List.length_append, HTL.out, HDn.out])
                have hbs : wc.heap.size ≤ (wc.alloc (.cells #[] 3)).drew.heap.size := BA.size
                have BAH := Lib.hid BA
                have hp0 : (0 : Int) ≤ (p : Int) := by omega
                have hpc : (p : Int) ≤ (lc : Int) := by omega
                have hpc2 : p ≤ lc := by omega
                have hpw : IntKind.i64.wrap ((p : Int) + 1) = (p : Int) + 1 := by rw [IntKind.wrap_i64]; omega
                have hq0' : (0 : Int) ≤ (p : Int) + 1 := by omega
                have hqc : (p : Int) + 1 ≤ (nF : Int) := by omega
                have hqc2 : p + 1 ≤ nF := hpn
                have hoe : Hid (onO ⟨st.done, st.now, st.wait.filter fun y => decide (¬ y = id)⟩ = onO st) := Lib.hid rfl
                have HFF := Lib.hid hF
                have hFD : Hid ((fullO st).length = nF) := Lib.hid hFl
                clear hF hFl BA hz ha hp hfc hj1 hj2 hjl hmem hrj
                by_cases hlc : lc = p + 1
                · have hlc2 : ¬ nF < p + 1 := by omega
                  have hnp : nF = p + 1 := by omega
                  have hdn : (fullO st).drop (p + 1) = [] := List.drop_eq_nil_of_le (by have := hFD.out; omega)
                  subst hlc
                  obtain rfl : nF = p + 1 := hnp
                  have DV : Hid (∀ w4, shI.At w4 (some ⟨g, lo, none⟩) 0 ((fullO st).drop (p + 1))) := Lib.hid fun w4 => by rw [hdn]; exact at_void w4 _ 0
                  have HD0 : Hid (((fullO st).drop (p + 1)).length = 0) := Lib.hid (by rw [hdn]; rfl)
                  have HL0 : Hid (((fullO st).take p ++ (fullO st).drop (p + 1)).length = p + 0) := Lib.hid (by rw [List.length_append, HTL.out, HD0.out])
                  have hse : p + 1 - (p + 1) = 0 := Nat.sub_self _
                  have hpp : (p : Int) ≤ (p : Int) + 1 := by omega
                  clear hdn
                  go_wp2_with fail
                  go_region_law (first
                    | (refine step_append_0 shI rfl _ _ 24 rfl wc.heap.size 3 i0 _ 8 Try.underlying24 hi hz0 hz1 hz2 rfl (.slice (some ⟨wc.heap.size, 0, none⟩) 0 0) ((fullO st).take p) rfl N0.out (some ⟨g, lo, none⟩) p (p + 1) rfl HTL TA.out (by unfold maxLen; omega) (by omega) hbs ?_; intro ra4 rc4 w4 own4 grow4; have B4 := Lib.hid (BAH.out.grown grow4 BAH.out.size (fun _ hk => Nat.le_of_eq (Option.some.inj hk))); have O4 := Lib.hid own4; have hs4 := B4.out.size; clear own4 grow4)
                    | (refine step_append_n shI rfl _ _ 24 rfl wc.heap.size 3 i0 _ 8 Try.underlying24 hi hz0 hz1 hz2 rfl (.slice ra4 p rc4) p ((fullO st).take p) ((fullO st).drop (p + 1)) HTL rfl O4.out (some ⟨g, lo, none⟩) 0 0 rfl HD0 (DV.out _) (by unfold maxLen; omega) (by omega) hs4 ?_; intro ra5 rc5 w5 own5 grow5 _; have L5 := Lib.hid (LC.out.newL (B4.out.grown grow5 B4.out.size (fun _ hk => (own_lt O4.out hk).1)) (que_own (S := shI) own5 HL0.out)); clear own5 grow5)
                    | fail)
                  all_goals go_wp2_with fail
                  all_goals go_meet
                  all_goals exact ⟨p + 0, nD, ra5, rc5, da, dc, rfl, rfl, (by rw [hoe.out, HON.out] <;> rfl), rfl, Lib.hid (by rw [HFC.out]; exact L5.out)⟩
                · have hlc2 : ¬ p + 1 = lc := fun e => hlc e.symm
                  have DW := at_drop HFF.out (p + 1) (lc - (p + 1)) (by rw [hFD.out]; exact hpn)
                  rw [show (p + 1) * shI.size = p + 1 from Nat.mul_one _] at DW
                  have DR := Lib.hid DW
                  clear DW
                  go_wp2_with fail
                  go_region_law (first
                    | (refine step_append_0 shI rfl _ _ 24 rfl wc.heap.size 3 i0 _ 8 Try.underlying24 hi hz0 hz1 hz2 rfl (.slice (some ⟨wc.heap.size, 0, none⟩) 0 0) ((fullO st).take p) rfl N0.out (some ⟨g, lo, none⟩) p lc rfl HTL TA.out (by unfold maxLen; omega) (by omega) hbs ?_; intro ra4 rc4 w4 own4 grow4; have B4 := Lib.hid (BAH.out.grown grow4 BAH.out.size (fun _ hk => Nat.le_of_eq (Option.some.inj hk))); have O4 := Lib.hid own4; have hs4 := B4.out.size; have DR4 := Lib.hid (DR.out.step B4.out); clear own4 grow4)
                    | (refine step_append_n shI rfl _ _ 24 rfl wc.heap.size 3 i0 _ 8 Try.underlying24 hi hz0 hz1 hz2 rfl (.slice ra4 p rc4) p ((fullO st).take p) ((fullO st).drop (p + 1)) HTL rfl O4.out (some ⟨g, lo + (p + 1), none⟩) (nF - (p + 1)) (lc - (p + 1)) rfl HDn DR4.out (by unfold maxLen; omega) (by omega) hs4 ?_; intro ra5 rc5 w5 own5 grow5 _; have L5 := Lib.hid (LC.out.newL (B4.out.grown grow5 B4.out.size (fun _ hk => (own_lt O4.out hk).1)) (que_own (S := shI) own5 HLn.out)); clear own5 grow5)
                    | fail)
                  all_goals go_wp2_with fail
                  all_goals go_meet
                  all_goals exact ⟨p + (nF - (p + 1)), nD, ra5, rc5, da, dc, rfl, rfl, (by rw [hoe.out, HON.out] <;> rfl), rfl, Lib.hid (by rw [HFC.out]; exact L5.out)⟩
            · obtain ⟨F, hF⟩ : ∃ F, fullO st = F := ⟨_, rfl⟩
              have LF := LC.out
              rw [hF] at LF
              have HFL := Lib.hid (que_len LF.lq)
              have LCF := Lib.hid LF
              have HFF := Lib.hid hF
              have hcle : cutN id F ≤ nF := by rw [← HFL.out]; exact cut_le
              have hx2 : errO st ⟨5, id⟩ = 0 := by simp [errO, hlo, hhi]
              have hs2' : stepO st ⟨5, id⟩ = flushO st id := by unfold stepO; rw [if_pos hx2]; rfl
              rw [hx2] at hx
              rw [hs2'] at hs2
              subst hx hs2
              clear hx2 hs2'
              clear LF hF
              go_wp2_with fail
              go_loop [15, 38] (fun y i => ∃ (j : Nat) (z : Int), j ≤ nF ∧ i = .int .i64 j ∧ y = .int .i64 z ∧ Hid (z = (cutN id (F.take j) : Int) - 1)) (fun _ i => nF - (intOf i).toNat)
              case atStart => exact ⟨0, -1, Nat.zero_le _, rfl, rfl, Lib.hid rfl⟩
              case round =>
                obtain ⟨j, z, hj, rfl, rfl, HZ⟩ := hrel
                by_cases hjl : j < nF
                · obtain ⟨y, hy⟩ : ∃ y, F[j]? = some y := ⟨F[j]'(by rw [HFL.out]; exact hjl), List.getElem?_eq_getElem _⟩
                  have hcn : cutN id (F.take (j + 1)) = if y = id then j + 1 else cutN id (F.take j) := by
                    have e : F.take (j + 1) = F.take j ++ [y] := by rw [List.take_add_one, hy]; rfl
                    rw [e, cut_snoc, List.length_take, HFL.out, Nat.min_eq_left (by omega)]
                  have HCN := Lib.hid hcn
                  obtain ⟨g, lo, rfl, hgl, cl⟩ := at_int (que_at LCF.out.lq) hy
                  clear hy hcn
                  by_cases hyi : y = id
                  · subst hyi
                    go_wp2_with fail
                    go_round
                    case rel => exact ⟨j + 1, j, by omega, by go_num, rfl, Lib.hid (by rw [HCN.out, if_pos rfl]; omega)⟩
                    case measure => simp [intOf]; omega
                  · have hyb : (y == id) = false := by simpa using hyi
                    go_wp2_with fail
                    go_round
                    case rel => exact ⟨j + 1, z, by omega, by go_num, rfl, Lib.hid (by rw [HCN.out, if_neg hyi]; exact HZ.out)⟩
                    case measure => simp [intOf]; omega
                · obtain rfl : j = nF := by omega
                  have hz2' := HZ.out
                  rw [show F.take j = F from by rw [← HFL.out, List.take_length]] at hz2'
                  clear hjl hj HZ
                  by_cases hcz : cutN id F = 0
                  · obtain rfl : z = -1 := by rw [hz2', hcz]; rfl
                    have hfs : flushO st id = st := by unfold flushO; rw [HFF.out, if_pos hcz]
                    have HFS := Lib.hid hfs
                    clear hz2' hcz hfs
                    go_wp2_with fail
                    go_meet
                    exact ⟨j, nD, la, lc, da, dc, rfl, rfl, (by rw [HFS.out, HON.out] <;> rfl), rfl, Lib.hid (by rw [HFS.out, HFF.out]; exact LCF.out)⟩
                  · obtain ⟨c, hc⟩ : ∃ c, cutN id F = c + 1 := ⟨cutN id F - 1, by omega⟩
                    obtain rfl : z = (c : Int) := by rw [hz2', hc]; omega
                    have hfs : flushO st id = ⟨st.done ++ F.take (c + 1), -1, F.drop (c + 1)⟩ := by unfold flushO; rw [HFF.out, if_neg hcz, hc]
                    have hf1 : fullO (flushO st id) = F.drop (c + 1) ∧ onO (flushO st id) = 0 ∧ (flushO st id).done = st.done ++ F.take (c + 1) := by rw [hfs]; exact ⟨rfl, rfl, rfl⟩
                    have HFS := Lib.hid hf1
                    have hcn : c + 1 ≤ j := by omega
                    obtain ⟨g, lo, rfl⟩ : ∃ g lo, la = some ⟨g, lo, none⟩ := by
                      cases la with
                      | none => obtain ⟨h1, h2⟩ := hz rfl; omega
                      | some a => obtain ⟨g, lo, rfl, _⟩ := ha a rfl; exact ⟨g, lo, rfl⟩
                    have hc0 : (0 : Int) ≤ (c : Int) := by omega
                    have hcd : decide ((0 : Int) ≤ (c : Int)) = true := decide_eq_true hc0
                    have hcw : IntKind.i64.wrap ((c : Int) + 1) = (c : Int) + 1 := by rw [IntKind.wrap_i64]; omega
                    have hc1 : (0 : Int) ≤ (c : Int) + 1 := by omega
                    have hcc : (c : Int) + 1 ≤ (lc : Int) := by omega
                    have hcc2 : c + 1 ≤ lc := by omega
                    have hcj : (c : Int) + 1 ≤ (j : Int) := by omega
                    have BA : Below wc.heap.size wc wc.drew := (Below.refl _ wc).drew
                    have XA := Lib.hid (LCF.out.step BA)
                    have HM := Lib.hid XA.out.dl
                    have TA := Lib.hid ((que_at XA.out.lq).take (c + 1))
                    have HTL : Hid ((F.take (c + 1)).length = c + 1) := Lib.hid (by rw [List.length_take, HFL.out]; omega)
                    have hbs : w.heap.size ≤ wc.drew.heap.size := XA.out.b.size
                    have HDL : Hid ((st.done ++ F.take (c + 1)).length = nD + (c + 1)) := Lib.hid (by rw [List.length_append, HM.out, HTL.out])
                    have hcn2 := hcn
                    clear hz2' hcz hc hfs hf1 BA hz ha hcle
                    by_cases hlc : lc = c + 1
                    · obtain rfl : j = c + 1 := by omega
                      subst hlc
                      have hdn : F.drop (c + 1) = [] := List.drop_eq_nil_of_le (by rw [HFL.out]; exact Nat.le_refl _)
                      have HDN := Lib.hid hdn
                      have hse : c + 1 - (c + 1) = 0 := Nat.sub_self _
                      clear hdn
                      go_wp2_with fail
                      go_region_law (first
                        | (refine step_append_n shI rfl _ _ 24 rfl w.heap.size 3 i0 _ 8 Try.underlying24 hi hz0 hz1 hz2 rfl (.slice da nD dc) nD st.done (F.take (c + 1)) HM (by simp [Act.eval, Act.put]) XA.out.dq (some ⟨g, lo, none⟩) (c + 1) (c + 1) (by simp [Act.eval, Act.put]) HTL TA.out (by unfold maxLen; omega) (by omega) hbs ?_; intro ra4 rc4 w4 own4 grow4 new4; have L4 := Lib.hid (XA.out.growD grow4 own4 HDL.out new4); clear own4 grow4 new4)
                        | fail)
                      all_goals go_wp2_with fail
                      all_goals go_meet
                      all_goals exact ⟨0, nD + (c + 1), _, 0, ra4, rc4, rfl, rfl, (by rw [HFS.out.2.1] <;> rfl), rfl, Lib.hid (by rw [HFS.out.1, HFS.out.2.2, HDN.out]; exact L4.out.cutL (que_end L4.out.lq) (fun _ h => h))⟩
                    · have hlc2 : ¬ c + 1 = lc := fun e => hlc e.symm
                      go_wp2_with fail
                      go_region_law (first
                        | (refine step_append_n shI rfl _ _ 24 rfl w.heap.size 3 i0 _ 8 Try.underlying24 hi hz0 hz1 hz2 rfl (.slice da nD dc) nD st.done (F.take (c + 1)) HM (by simp [Act.eval, Act.put]) XA.out.dq (some ⟨g, lo, none⟩) (c + 1) lc (by simp [Act.eval, Act.put]) HTL TA.out (by unfold maxLen; omega) (by omega) hbs ?_; intro ra4 rc4 w4 own4 grow4 new4; have L4 := Lib.hid (XA.out.growD grow4 own4 HDL.out new4); have QD := que_drop L4.out.lq (c + 1) hcn2; rw [show (c + 1) * shI.size = c + 1 from Nat.mul_one _] at QD; have QDH := Lib.hid QD; clear own4 grow4 new4 QD)
                        | fail)
                      all_goals go_wp2_with fail
                      all_goals go_meet
                      all_goals exact ⟨j - (c + 1), nD + (c + 1), some ⟨g, lo + (c + 1), none⟩, lc - (c + 1), ra4, rc4, rfl, rfl, (by rw [HFS.out.2.1] <;> rfl), rfl, Lib.hid (by rw [HFS.out.1, HFS.out.2.2]; exact L4.out.cutL QDH.out (fun _ h => h))⟩
        case rest =>
          as_aux_lemma =>
            obtain ⟨nF2, nD2, la2, lc2, da2, dc2, rfl, rfl, rfl, rfl, L2⟩ := hcut
            have BA : Below wc.heap.size wc (wc.alloc (.cells #[.int .i64 x] 25)) := below_alloc wc _
            have XA := Lib.hid (L2.out.step BA)
            have HM := Lib.hid XA.out.el
            have NA : Hid (shI.At (wc.alloc (.cells #[.int .i64 x] 25)) (some ⟨wc.heap.size, 0, none⟩) 1 [x]) := Lib.hid (Shape.At.lit (S := shI) [x] (heap_alloc_new wc _))
            have hbs : w.heap.size ≤ (wc.alloc (.cells #[.int .i64 x] 25)).heap.size := XA.out.b.size
            clear BA
            go_wp2_with (first
              | (at_builtin; refine wpList_append_n shI rfl _ _ 23 rfl w.heap.size 25 j0 _ 8 Try.underlying23 ji jz0 jz1 jz2 rfl (.slice ea k ec) k es [x] HM rfl XA.out.eq (some ⟨wc.heap.size, 0, none⟩) 1 1 rfl (Lib.hid rfl) NA.out (by unfold maxLen; omega) (by omega) hbs ?_; intro ra4 rc4 w4 own4 grow4 _; have L4 := Lib.hid (XA.out.growE grow4 own4 (by rw [List.length_append, HM.out]; rfl)); clear own4 grow4)
              | fail)
            go_roundw
            case rel => exact ⟨k + 1, nF2, nD2, la2, lc2, da2, dc2, ra4, rc4, by omega, by go_num, rfl, rfl, rfl, by rw [HNR.out], Lib.hid (by rw [HNR.out, HNE.out]; exact L4.out)⟩
            case measure => simp [intOf]; omega
    · as_aux_lemma =>
        obtain rfl : k = n := by omega
        have et : ops.take k = ops := by rw [← hm.out, List.take_length]
        rw [et] at HL
        simp only [et]
        have hg : GoodO (runO newO ops) := good_runO good_newO
        have hall : (allO (runO newO ops)).length ≤ 400 := by
          have := all_len (ops := ops) good_newO
          rw [hm.out] at this
          have e0 : (allO newO).length = 0 := rfl
          omega
        obtain ⟨st, hst⟩ : ∃ st, runO newO ops = st := ⟨_, rfl⟩
        rw [hst] at HL hg hall
        simp only [hst]
        have HST := Lib.hid hst
        clear hst et
        have hwl := wait_le st
        obtain ⟨ad1, cap1, hv1, hnc, hcm, hz, ha⟩ := que_shape HL.out.lq
        simp only [Value.slice.injEq, true_and] at hv1
        obtain ⟨rfl, rfl⟩ := hv1
        have hFl := que_len HL.out.lq
        have RE := Lib.hid (Shape.At.own (S := shI) HL.out.eq HL.out.el)
        have RD := Lib.hid (Shape.At.own (S := shI) HL.out.dq HL.out.dl)
        have BA : Below wr.heap.size wr (wr.alloc (.cells #[] 3)) := below_alloc wr _
        have BAH := Lib.hid BA
        have N0 : Hid ((wr.alloc (.cells #[] 3)).ownsRow wr.heap.size 3 1 (.slice (some ⟨wr.heap.size, 0, none⟩) 0 0) 0 []) := Lib.hid (own_new wr 3 wr.heap.size (Nat.le_refl _))
        have hbs : wr.heap.size ≤ (wr.alloc (.cells #[] 3)).heap.size := BA.size
        have hFA := que_at HL.out.lq
        by_cases hnow : st.now = -1
        · have hon : onO st = 0 := by unfold onO; rw [if_pos hnow]
          have hfw : fullO st = st.wait := by unfold fullO; rw [if_pos hnow]; rfl
          rw [hfw] at hFA hFl
          simp only [hon]
          have HWL := Lib.hid hFl
          have hnb : nF ≤ 400 := by omega
          have HNOW := Lib.hid hnow
          have RA := Lib.hid (hFA.step BA)
          clear hon hfw hnow hg
          by_cases hlc : lc = 0
          · subst hlc
            obtain rfl : nF = 0 := by omega
            clear hFl hFA BA hz ha hlt hk
            go_wp2_with (first
              | (at_builtin; refine wpList_append_0 shI rfl _ _ 24 rfl wr.heap.size 3 i0 _ 8 Try.underlying24 hi hz0 hz1 hz2 rfl (.slice (some ⟨wr.heap.size, 0, none⟩) 0 0) st.wait rfl N0.out la 0 0 rfl HWL RA.out (by unfold maxLen; omega) (by omega) hbs ?_; intro ra4 rc4 w4 own4 grow4; have P4 := Lib.hid (Shape.At.own (S := shI) own4 HWL.out); have B4 := Lib.hid (BAH.out.grown grow4 BAH.out.size (fun _ hk => Nat.le_of_eq (Option.some.inj hk))); clear own4 grow4)
              | fail)
            refine bodyPost_ret (v := .tuple #[.slice ea k ec, .slice da nD dc, .slice ra4 0 rc4, .int .i64 (-1), .int .i64 0]) (by simp [results, Try.results9, go_sem]) rfl ?_
            rw [HST.out]
            exact ⟨ea, ec, da, dc, ra4, rc4, by rw [HL.out.dl, HWL.out, HNOW.out], RE.out.step B4.out, RD.out.step B4.out, P4.out, pstep HL.out.b B4.out⟩
          · obtain ⟨g, lo, rfl⟩ : ∃ g lo, la = some ⟨g, lo, none⟩ := by
              cases la with
              | none => obtain ⟨h1, h2⟩ := hz rfl; omega
              | some a => obtain ⟨g, lo, rfl, _⟩ := ha a rfl; exact ⟨g, lo, rfl⟩
            have hlc2 : ¬ 0 = lc := fun e => hlc e.symm
            clear hFl hFA BA hz ha hlt hk
            go_wp2_with (first
              | (at_builtin; refine wpList_append_0 shI rfl _ _ 24 rfl wr.heap.size 3 i0 _ 8 Try.underlying24 hi hz0 hz1 hz2 rfl (.slice (some ⟨wr.heap.size, 0, none⟩) 0 0) st.wait rfl N0.out (some ⟨g, lo, none⟩) nF lc rfl HWL RA.out (by unfold maxLen; omega) (by omega) hbs ?_; intro ra4 rc4 w4 own4 grow4; have P4 := Lib.hid (Shape.At.own (S := shI) own4 HWL.out); have B4 := Lib.hid (BAH.out.grown grow4 BAH.out.size (fun _ hk => Nat.le_of_eq (Option.some.inj hk))); clear own4 grow4)
              | fail)
            refine bodyPost_ret (v := .tuple #[.slice ea k ec, .slice da nD dc, .slice ra4 nF rc4, .int .i64 (-1), .int .i64 0]) (by simp [results, Try.results9, go_sem]) rfl ?_
            rw [HST.out]
            exact ⟨ea, ec, da, dc, ra4, rc4, by rw [HL.out.dl, HWL.out, HNOW.out], RE.out.step B4.out, RD.out.step B4.out, P4.out, pstep HL.out.b B4.out⟩
        · have hon : onO st = 1 := by unfold onO; rw [if_neg hnow]
          obtain ⟨c, hc⟩ : ∃ c, st.now = c := ⟨_, rfl⟩
          have hfw : fullO st = c :: st.wait := by unfold fullO; rw [if_neg hnow, hc]; rfl
          rw [hfw] at hFA hFl
          simp only [hon]
          obtain ⟨wn, hwn⟩ : ∃ wn, st.wait.length = wn := ⟨_, rfl⟩
          obtain rfl : nF = wn + 1 := by rw [← hFl, List.length_cons, hwn]
          have HWL := Lib.hid hwn
          have hwb : wn ≤ 400 := by omega
          have HNOW := Lib.hid hc
          obtain ⟨g, lo, rfl, hgl, cl⟩ := at_int hFA (k := 0) (x := c) rfl
          rw [Nat.add_zero] at cl
          have hm0 : (0 : Int) < ((wn + 1 : Nat) : Int) := by omega
          have hmd : decide (0 < wn + 1) = true := decide_eq_true (by omega)
          have hc4 : (1 : Int) ≤ (wn : Int) + 1 := by omega
          by_cases hc1 : lc = 1
          · subst hc1
            obtain rfl : wn = 0 := by omega
            have hw0 : st.wait = [] := List.eq_nil_of_length_eq_zero hwn
            have RA : Hid (shI.At (wr.alloc (.cells #[] 3)) (some ⟨g, lo, none⟩) 0 st.wait) := Lib.hid (by rw [hw0]; exact at_void _ _ _)
            clear hFl hFA BA hz ha hlt hk hw0 hwn hc hfw hon hnow hg
            go_wp2_with (first
              | (at_builtin; refine wpList_append_0 shI rfl _ _ 24 rfl wr.heap.size 3 i0 _ 8 Try.underlying24 hi hz0 hz1 hz2 rfl (.slice (some ⟨wr.heap.size, 0, none⟩) 0 0) st.wait rfl N0.out (some ⟨g, lo, none⟩) 0 0 rfl HWL RA.out (by unfold maxLen; omega) (by omega) hbs ?_; intro ra4 rc4 w4 own4 grow4; have P4 := Lib.hid (Shape.At.own (S := shI) own4 HWL.out); have B4 := Lib.hid (BAH.out.grown grow4 BAH.out.size (fun _ hk => Nat.le_of_eq (Option.some.inj hk))); clear own4 grow4)
              | fail)
            refine bodyPost_ret (v := .tuple #[.slice ea k ec, .slice da nD dc, .slice ra4 0 rc4, .int .i64 c, .int .i64 0]) (by simp [results, Try.results9, go_sem]) rfl ?_
            rw [HST.out]
            exact ⟨ea, ec, da, dc, ra4, rc4, by rw [HL.out.dl, HWL.out, HNOW.out], RE.out.step B4.out, RD.out.step B4.out, P4.out, pstep HL.out.b B4.out⟩
          · have hc2 : decide (1 = lc) = false := decide_eq_false (fun e => hc1 e.symm)
            have hc3 : 1 ≤ wn + 1 := by omega
            have DA := at_drop hFA 1 (lc - 1) (by rw [List.length_cons]; omega)
            rw [show 1 * shI.size = 1 from rfl] at DA
            have RA : Hid (shI.At (wr.alloc (.cells #[] 3)) (some ⟨g, lo + 1, none⟩) (lc - 1) st.wait) := Lib.hid (Shape.At.step DA BA)
            clear hFl hFA BA hz ha hlt hk hwn hc hfw hon hnow hg DA
            go_wp2_with (first
              | (at_builtin; refine wpList_append_0 shI rfl _ _ 24 rfl wr.heap.size 3 i0 _ 8 Try.underlying24 hi hz0 hz1 hz2 rfl (.slice (some ⟨wr.heap.size, 0, none⟩) 0 0) st.wait rfl N0.out (some ⟨g, lo + 1, none⟩) wn (lc - 1) rfl HWL RA.out (by unfold maxLen; omega) (by omega) hbs ?_; intro ra4 rc4 w4 own4 grow4; have P4 := Lib.hid (Shape.At.own (S := shI) own4 HWL.out); have B4 := Lib.hid (BAH.out.grown grow4 BAH.out.size (fun _ hk => Nat.le_of_eq (Option.some.inj hk))); clear own4 grow4)
              | fail)
            refine bodyPost_ret (v := .tuple #[.slice ea k ec, .slice da nD dc, .slice ra4 wn rc4, .int .i64 c, .int .i64 0]) (by simp [results, Try.results9, go_sem]) rfl ?_
            rw [HST.out]
            exact ⟨ea, ec, da, dc, ra4, rc4, by rw [HL.out.dl, HWL.out, HNOW.out], RE.out.step B4.out, RD.out.step B4.out, P4.out, pstep HL.out.b B4.out⟩
end Go.Proofs.Ytlmkbgclogbpfaa
