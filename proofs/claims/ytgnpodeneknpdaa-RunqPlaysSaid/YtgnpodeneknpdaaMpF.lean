/- corebellref.MPlay, its loop. -/
import Derived.Test.YtgnpodeneknpdaaMpE
namespace Go.Proofs.Ytgnpodeneknpdaa
open Go.RowKit

theorem que_apart {α : Type} {S : Shape α} {w : World} {base base' e e' size n k : Nat} {v u : Value} {l : List α} {xs : List Value} (hq : Que S w base e v n l) (ho : w.ownsRow base' e' size u k xs) (hne : ¬ e = e') : ∀ g, v.ownBlock = some g → u.ownBlock = some g → False := by
  intro g hg hu
  rcases ho.2 with ⟨rfl, _⟩ | ⟨g', cap, cur, rfl, _, hh, _⟩
  · cases hu
  · simp only [Value.ownBlock, Option.some.injEq] at hu
    subst hu
    exact que_ne hq hh (fun e => hne e.symm) _ hg rfl
/-- Rows of different elements lie in different blocks. -/
theorem own_apart2 {w : World} {base base' e e' size size' k k' : Nat} {v u : Value} {xs ys : List Value} (h : w.ownsRow base e size v k xs) (h' : w.ownsRow base' e' size' u k' ys) (hne : ¬ e = e') : ∀ g, v.ownBlock = some g → u.ownBlock = some g → False := by
  intro g hg hu
  obtain ⟨h1, h2⟩ := h
  rcases h2 with ⟨rfl, _⟩ | ⟨g', cap, cur, hv, _, hh, r⟩
  · cases hg
  · rw [hv] at hg
    simp only [Value.ownBlock, Option.some.injEq] at hg
    subst hg
    exact own_ne h' hh hne _ hu rfl
/-- MPlay's variables. -/
structure LpM (w0 wr : World) (s : StU) (es : List Int) (v u t : Value) (ln k tn : Nat) : Prop where
  q : Que shQ wr w0.heap.size 60 v ln s.list
  e : wr.ownsRow w0.heap.size 28 1 u k (shI.flat es)
  t : wr.ownsRow w0.heap.size 3 1 t tn (shI.flat s.taken)
  b : Below w0.heap.size w0 wr
section
variable {w0 wr w' : World} {s : StU} {es : List Int} {v u t : Value} {ln k tn : Nat}
theorem LpM.step (h : LpM w0 wr s es v u t ln k tn) (hb : Below wr.heap.size wr w') : LpM w0 w' s es v u t ln k tn :=
  ⟨que_step h.q hb, own_step h.e hb, own_step h.t hb, pstep h.b hb⟩
/-- The list has changed. -/
theorem LpM.que (h : LpM w0 wr s es v u t ln k tn) {v' : Value} {ln' : Nat} {l : List EnT} (hq : Que shQ w' w0.heap.size 60 v' ln' l) (hg : wr.grownBy w' v.ownBlock) : LpM w0 w' ⟨l, s.taken⟩ es v' u t ln' k tn :=
  ⟨hq, own_kept h.e hg fun g h1 h2 => que_apart h.q h.e (by decide) g h2.symm h1, own_kept h.t hg fun g h1 h2 => que_apart h.q h.t (by decide) g h2.symm h1, h.b.grown hg h.b.size fun g hk => (que_lt h.q hk).1⟩
theorem LpM.err (h : LpM w0 wr s es v u t ln k tn) {u' : Value} {k' : Nat} {es' : List Int} (ho : w'.ownsRow w0.heap.size 28 1 u' k' (shI.flat es')) (hg : wr.grownBy w' u.ownBlock) : LpM w0 w' s es' v u' t ln k' tn :=
  ⟨que_kept h.q hg fun g h1 h2 => que_apart h.q h.e (by decide) g h1 h2.symm, ho, own_kept h.t hg fun g h1 h2 => own_apart2 h.t h.e (by decide) g h1 h2.symm, h.b.grown hg h.b.size fun _ hk => (own_lt h.e hk).1⟩
theorem LpM.tak (h : LpM w0 wr s es v u t ln k tn) {t' : Value} {tn' : Nat} {tk : List Int} (ho : w'.ownsRow w0.heap.size 3 1 t' tn' (shI.flat tk)) (hg : wr.grownBy w' t.ownBlock) : LpM w0 w' ⟨s.list, tk⟩ es v u t' ln k tn' :=
  ⟨que_kept h.q hg fun g h1 h2 => que_apart h.q h.t (by decide) g h1 h2.symm, own_kept h.e hg fun g h1 h2 => own_apart2 h.e h.t (by decide) g h1 h2.symm, ho, h.b.grown hg h.b.size fun _ hk => (own_lt h.t hk).1⟩
end
section
variable {w0 wr w' : World} {s : StU} {es : List Int} {v u t : Value} {ln k tn : Nat}
theorem LpM.fresh (h : LpM w0 wr s es v u t ln k tn) {w3 : World} {v' : Value} {ln' : Nat} {l : List EnT} {r : Option Nat} (hb : Below wr.heap.size wr w3) (hq : Que shQ w' wr.heap.size 60 v' ln' l) (hg : w3.grownBy w' r) (hr : ∀ g, r = some g → wr.heap.size ≤ g) : LpM w0 w' ⟨l, s.taken⟩ es v' u t ln' k tn :=
  ⟨que_base hq h.b.size, own_kept (own_step h.e hb) hg fun g hg' e => by have := (own_lt h.e hg').2; have := hr g e.symm; omega, own_kept (own_step h.t hb) hg fun g hg' e => by have := (own_lt h.t hg').2; have := hr g e.symm; omega, (pstep h.b hb).grown hg (pstep h.b hb).size fun g e => Nat.le_trans h.b.size (hr g e)⟩
end
theorem atI_no {s : StU} {i r : Int} (h : AtI s.list i r) (hh : heldU s i = false) : r = -1 := by
  rcases h with ⟨h, _⟩ | ⟨k, q, _, hk, hq⟩
  · exact h
  · exact absurd hq (heldU_no hh q (List.mem_of_getElem? hk))
theorem atI_yes {s : StU} {i r : Int} (h : AtI s.list i r) (hh : heldU s i = true) : ∃ (k : Nat) (q : EnT), r = (k : Int) ∧ s.list[k]? = some q ∧ q.1 = i := by
  rcases h with ⟨_, h⟩ | h
  · obtain ⟨q, hq, e⟩ := List.mem_map.1 (heldU_mem.1 hh)
    exact absurd e (h q hq)
  · exact h
theorem filter_cutE {l : List EnT} (h : l.Pairwise fun a b => ¬ a.1 = b.1) {k : Nat} {q : EnT} {i : Int} (hk : l[k]? = some q) (hq : q.1 = i) : l.take k ++ l.drop (k + 1) = l.filter fun x => decide (¬ x.1 = i) := by
  induction l generalizing k with
  | nil => cases hk
  | cons a r ih =>
    rw [List.pairwise_cons] at h
    cases k with
    | zero =>
      simp only [List.getElem?_cons_zero, Option.some.injEq] at hk
      subst hk
      rw [List.filter_cons_of_neg (by simpa using hq), List.take_zero, List.nil_append, List.drop_succ_cons, List.drop_zero]
      exact (List.filter_eq_self.2 fun b hb => by simpa using fun e : b.1 = i => h.1 b hb (by rw [hq, e])).symm
    | succ k =>
      rw [List.getElem?_cons_succ] at hk
      have hm := List.mem_of_getElem? hk
      rw [List.filter_cons_of_pos (by simpa using fun e : a.1 = i => h.1 q hm (by rw [hq, e])), List.take_succ_cons, List.cons_append, List.drop_succ_cons, ih h.2 hk]
theorem int_litE (X : World) (x : Int) (cap : Nat) : shI.At (X.alloc (.cells #[.int .i64 x] 28)) (some ⟨X.heap.size, 0, none⟩) cap [x] :=
  Shape.At.lit (S := shI) [x] (heap_alloc_new X _)
theorem ins_M {w0 w2 : World} {s : StU} {es : List Int} {u t : Value} {la : Option Addr} {lc ln k tn c : Nat} (H : LpM w0 w2 s es (.slice la ln lc) u t ln k tn) (P : EnT → Bool) (id lv : Int) (hn : ln ≤ 5864062014634) (hc : atU P s.list = c) (q : Nat) :
    Calls Try.prog 30 #[.slice la ln lc, .int .i64 (c : Int), .slice (some ⟨w2.heap.size, 0, none⟩) 1 1] ((w2.drewN q).alloc (.cells #[.int .i64 id, .int .i64 lv] 60)) fun e w' => ∃ ra rc, e = .returned (.slice ra (ln + 1) rc) ∧ LpM w0 w' ⟨putU P (id, lv) s.list, s.taken⟩ es (.slice ra (ln + 1) rc) u t (ln + 1) k tn := by
  have eX : (w2.drewN q).heap.size = w2.heap.size := by simp
  have hq := H.q
  have LA := (H.step (below_drewN (Below.refl _ _) q)).step (below_alloc (w2.drewN q) (.cells #[.int .i64 id, .int .i64 lv] 60))
  have HV := heap_alloc_new (w2.drewN q) (.cells #[.int .i64 id, .int .i64 lv] 60)
  rw [eX] at HV
  have hcl : c ≤ ln := by rw [← hc, ← hq.1]; exact at_leU
  refine (insq_any s.list (id, lv) ln lc c w2.heap.size w0.heap.size _ la (Lib.hid HV) (Lib.hid hq.1) hn LA.b.size (Lib.hid LA.q) hcl (fun g hg e => by have := (que_lt hq hg).2; omega)).mono ?_
  rintro e w' ⟨ra, rc, rfl, h1, h2, _⟩
  refine ⟨ra, rc, rfl, ?_⟩
  rw [put_at, hc]
  rw [List.append_assoc] at h1
  exact LA.que h1 h2
/-- What MPlay gives. -/
def MPlayN (w : World) (n tl ll : Nat) (es : List Int) (s : StU) (e : Ending) (w' : World) : Prop :=
  ∃ ea ec ta tc la lc, e = .returned (.tuple #[.slice ea n ec, .slice ta tl tc, .slice la ll lc]) ∧ shI.At w' ea ec es ∧ shI.At w' ta tc s.taken ∧ shI.At w' la lc (leftU s) ∧ Below w.heap.size w w'
set_option maxHeartbeats 8000000 in
set_option maxRecDepth 100000 in
theorem mplay_ok {ad : Option Addr} {cap n : Nat} {ops : List RuT} (w : World) (HA : Hid (shR.At w ad cap ops)) (hm : Hid (ops.length = n)) (hn : n ≤ 5864062014634) {es0 : List Int} {s0 : StU} (he : Hid (errsU newU ops = es0)) (hs : Hid (runU newU ops = s0)) {tl ll : Nat} (ht : Hid (s0.taken.length = tl)) (hl : Hid (s0.list.length = ll)) :
    Calls Try.prog 10 #[.slice ad n cap] w (MPlayN w n tl ll es0 s0) := by
  obtain ⟨j0, hj, hy0, hy1, hy2⟩ := info_parts info_errno
  obtain ⟨i0, hi, hz0, hz1, hz2⟩ := info_parts info_int
  have L0 : Hid (LpM w w newU [] (.slice none 0 0) (.slice none 0 0) (.slice none 0 0) 0 0 0) := Lib.hid ⟨que_nil _ _ _ _, World.ownsRow_nil _ _ _ _, World.ownsRow_nil _ _ _ _, Below.refl _ _⟩
  go_enter Try.func10, Try.ntmps10
  go_upto_region 5 with fail
  go_loopw [5, 6, 7, 19] (fun v u t i wr => ∃ (k ln tn : Nat) (la : Option Addr) (lc : Nat) (ua : Option Addr) (uc : Nat) (ta : Option Addr) (tc : Nat), k ≤ n ∧ i = .int .i64 k ∧ v = .slice la ln lc ∧ u = .slice ua k uc ∧ t = .slice ta tn tc ∧ Hid (LpM w wr (runU newU (ops.take k)) (errsU newU (ops.take k)) (.slice la ln lc) (.slice ua k uc) (.slice ta tn tc) ln k tn)) (fun _ _ _ i _ => n - (intOf i).toNat)
  case atStart => exact ⟨0, 0, 0, none, 0, none, 0, none, 0, Nat.zero_le _, rfl, rfl, rfl, rfl, L0⟩
  case round =>
    clear L0
    obtain ⟨k, ln, tn, la, lc, ua, uc, ta, tc, hk, rfl, rfl, rfl, rfl, HL⟩ := hrel
    have hlen : (errsU newU (ops.take k)).length = k := by rw [errsU_len, List.length_take, hm.out]; omega
    have hsz := siz_nat (ops := ops.take k)
    rw [List.length_take, hm.out] at hsz
    have HGD := Lib.hid (good_runU (ops := ops.take k) good_newU)
    have hll := HL.out.q.1
    have htl := HL.out.t.1
    have hfl : (shI.flat (runU newU (ops.take k)).taken).length = (runU newU (ops.take k)).taken.length := by rw [shI.flat_len]; exact Nat.mul_one _
    rw [hfl, Nat.mul_one] at htl
    have hlb : ln ≤ 5864062014634 := by omega
    have htb : tn ≤ 5864062014634 := by omega
    have HLEN := Lib.hid hlen
    have HLL := Lib.hid hll
    have HTL := Lib.hid htl
    clear hlen hsz hll htl hfl
    by_cases hlt : k < n
    · obtain ⟨o, ho⟩ : ∃ o, ops[k]? = some o := ⟨ops[k]'(by rw [hm.out]; exact hlt), List.getElem?_eq_getElem _⟩
      have HNE := Lib.hid (errsU_next ho newU)
      have HNR := Lib.hid (runU_next ho newU)
      obtain ⟨b, off, rfl, hb, e0, e1, e2⟩ := at_ru HA.out ho
      have g0 := (HL.out.b.cell (p := ⟨b, off + k * 3, none⟩) hb).trans e0
      have g1 := (HL.out.b.cell (p := ⟨b, off + k * 3 + 1, none⟩) hb).trans e1
      have g2 := (HL.out.b.cell (p := ⟨b, off + k * 3 + 2, none⟩) hb).trans e2
      have hbr : b < wr.heap.size := Nat.lt_of_lt_of_le hb HL.out.b.size
      obtain ⟨kd, id, lv⟩ := o
      simp only at g0 g1 g2
      obtain ⟨st, hst⟩ : ∃ st, runU newU (ops.take k) = st := ⟨_, rfl⟩
      obtain ⟨es, hes⟩ : ∃ es, errsU newU (ops.take k) = es := ⟨_, rfl⟩
      rw [hst] at HL HNE HNR HGD HLL HTL
      rw [hes] at HL HLEN HNE
      have LA := Lib.hid (HL.out.step (below_alloc wr (.cells #[.int .i64 kd, .int .i64 id, .int .i64 lv] 34)))
      have OA := Lib.hid (heap_alloc_new wr (.cells #[.int .i64 kd, .int .i64 id, .int .i64 lv] 34))
      have QA := Lib.hid (que_at LA.out.q)
      have CA : Hid ((wr.alloc (.cells #[.int .i64 kd, .int .i64 id, .int .i64 lv] 34)).cell? ⟨wr.heap.size, 1, none⟩ = some (.int .i64 id)) := Lib.hid (trio_at OA.out).2.1
      have hla : wr.heap.size < (wr.alloc (.cells #[.int .i64 kd, .int .i64 id, .int .i64 lv] 34)).heap.size := heap_lt OA.out
      have hln13 : ln ≤ 10000000000000 := by omega
      clear e0 e1 e2 ho hst hes
      go_upto_region 9 with (first
        | (go_at_call 28; (with_reducible refine (at_N id _ _ QA HLL hln13 CA hla).mono ?_); rintro e w2 ⟨r, rfl, hat, hb2⟩; have L2 := Lib.hid (LA.out.step hb2); have O2 := Lib.hid (heap_step OA.out hb2); have HAT := Lib.hid hat; clear hb2 hat)
        | fail)
      obtain ⟨t0, t1, t2⟩ := trio_at O2.out
      have hO2 := heap_lt O2.out
      clear LA OA QA CA hla g0 g1 g2 hbr
      generalize wr.heap.size = B at t0 t1 t2 hO2 ⊢
      clear O2 HL
      by_cases h1 : kd < 1
      · have hd1 : decide (kd < 1) = true := decide_eq_true h1
        have hk1 : (kd == 1) = false := by simp; omega
        have hk2 : (kd == 2) = false := by simp; omega
        have HX : Hid (errU st ⟨kd, id, lv⟩ = 5) := Lib.hid (by unfold errU; rw [if_pos (by simp only; omega)])
        have LB := Lib.hid (L2.out.step (below_alloc w2 (.cells #[.int .i64 5] 28)))
        have NB := Lib.hid (int_litE w2 5 1)
        have hbs : w.heap.size ≤ (w2.alloc (.cells #[.int .i64 5] 28)).heap.size := LB.out.b.size
        have HNE2 : Hid (errsU newU (ops.take (k + 1)) = es ++ [5]) := Lib.hid (by rw [HNE.out, HX.out])
        have HS : Hid (runU newU (ops.take (k + 1)) = st) := Lib.hid (by rw [HNR.out]; exact by unfold stepU; rw [if_neg (by rw [HX.out]; decide)])
        go_wp2_with (first
          | (at_builtin; refine wpList_append_n shI rfl _ _ 23 rfl w.heap.size 28 j0 _ 8 Try.underlying23 hj hy0 hy1 hy2 rfl (.slice ua k uc) k es [5] HLEN rfl LB.out.e (some ⟨w2.heap.size, 0, none⟩) 1 1 rfl (Lib.hid rfl) NB.out (by unfold maxLen; omega) (by omega) hbs ?_; intro ra9 rc9 w9 own9 grow9 _; rw [← HNE2.out] at own9; have L9 := Lib.hid (LB.out.err own9 grow9); clear own9 grow9)
          | fail)
        go_roundw
        case rel => exact ⟨k + 1, _, _, _, _, ra9, rc9, _, _, by omega, by go_num, rfl, rfl, rfl, Lib.hid (by rw [HS.out]; exact L9.out)⟩
        case measure => simp [intOf]; omega
      by_cases h4 : 4 < kd
      · have hd1 : decide (kd < 1) = false := decide_eq_false h1
        have hd4 : decide (4 < kd) = true := decide_eq_true h4
        have hk1 : (kd == 1) = false := by simp; omega
        have hk2 : (kd == 2) = false := by simp; omega
        have HX : Hid (errU st ⟨kd, id, lv⟩ = 5) := Lib.hid (by unfold errU; rw [if_pos (by simp only; omega)])
        have LB := Lib.hid (L2.out.step (below_alloc w2 (.cells #[.int .i64 5] 28)))
        have NB := Lib.hid (int_litE w2 5 1)
        have hbs : w.heap.size ≤ (w2.alloc (.cells #[.int .i64 5] 28)).heap.size := LB.out.b.size
        have HNE2 : Hid (errsU newU (ops.take (k + 1)) = es ++ [5]) := Lib.hid (by rw [HNE.out, HX.out])
        have HS : Hid (runU newU (ops.take (k + 1)) = st) := Lib.hid (by rw [HNR.out]; exact by unfold stepU; rw [if_neg (by rw [HX.out]; decide)])
        go_wp2_with (first
          | (at_builtin; refine wpList_append_n shI rfl _ _ 23 rfl w.heap.size 28 j0 _ 8 Try.underlying23 hj hy0 hy1 hy2 rfl (.slice ua k uc) k es [5] HLEN rfl LB.out.e (some ⟨w2.heap.size, 0, none⟩) 1 1 rfl (Lib.hid rfl) NB.out (by unfold maxLen; omega) (by omega) hbs ?_; intro ra9 rc9 w9 own9 grow9 _; rw [← HNE2.out] at own9; have L9 := Lib.hid (LB.out.err own9 grow9); clear own9 grow9)
          | fail)
        go_roundw
        case rel => exact ⟨k + 1, _, _, _, _, ra9, rc9, _, _, by omega, by go_num, rfl, rfl, rfl, Lib.hid (by rw [HS.out]; exact L9.out)⟩
        case measure => simp [intOf]; omega
      obtain rfl | rfl | rfl | rfl : kd = 1 ∨ kd = 2 ∨ kd = 3 ∨ kd = 4 := by omega
      · clear h1 h4
        as_aux_lemma =>
          by_cases h0 : lv < 0
          · have hd0 : decide (lv < 0) = true := decide_eq_true h0
            have HX : Hid (errU st ⟨1, id, lv⟩ = 2) := Lib.hid (by unfold errU; simp; omega)
            have LB := Lib.hid (L2.out.step (below_alloc w2 (.cells #[.int .i64 2] 28)))
            have NB := Lib.hid (int_litE w2 2 1)
            have hbs : w.heap.size ≤ (w2.alloc (.cells #[.int .i64 2] 28)).heap.size := LB.out.b.size
            have HNE2 : Hid (errsU newU (ops.take (k + 1)) = es ++ [2]) := Lib.hid (by rw [HNE.out, HX.out])
            have HS : Hid (runU newU (ops.take (k + 1)) = st) := Lib.hid (by rw [HNR.out]; exact by unfold stepU; rw [if_neg (by rw [HX.out]; decide)])
            go_wp2_with (first
              | (at_builtin; refine wpList_append_n shI rfl _ _ 23 rfl w.heap.size 28 j0 _ 8 Try.underlying23 hj hy0 hy1 hy2 rfl (.slice ua k uc) k es [2] HLEN rfl LB.out.e (some ⟨w2.heap.size, 0, none⟩) 1 1 rfl (Lib.hid rfl) NB.out (by unfold maxLen; omega) (by omega) hbs ?_; intro ra9 rc9 w9 own9 grow9 _; rw [← HNE2.out] at own9; have L9 := Lib.hid (LB.out.err own9 grow9); clear own9 grow9)
              | fail)
            go_roundw
            case rel => exact ⟨k + 1, _, _, _, _, ra9, rc9, _, _, by omega, by go_num, rfl, rfl, rfl, Lib.hid (by rw [HS.out]; exact L9.out)⟩
            case measure => simp [intOf]; omega
          · have hd0 : decide (lv < 0) = false := decide_eq_false h0
            by_cases h31 : 31 < lv
            · have hd1 : decide (31 < lv) = true := decide_eq_true h31
              have HX : Hid (errU st ⟨1, id, lv⟩ = 2) := Lib.hid (by unfold errU; simp; omega)
              have LB := Lib.hid (L2.out.step (below_alloc w2 (.cells #[.int .i64 2] 28)))
              have NB := Lib.hid (int_litE w2 2 1)
              have hbs : w.heap.size ≤ (w2.alloc (.cells #[.int .i64 2] 28)).heap.size := LB.out.b.size
              have HNE2 : Hid (errsU newU (ops.take (k + 1)) = es ++ [2]) := Lib.hid (by rw [HNE.out, HX.out])
              have HS : Hid (runU newU (ops.take (k + 1)) = st) := Lib.hid (by rw [HNR.out]; exact by unfold stepU; rw [if_neg (by rw [HX.out]; decide)])
              go_wp2_with (first
                | (at_builtin; refine wpList_append_n shI rfl _ _ 23 rfl w.heap.size 28 j0 _ 8 Try.underlying23 hj hy0 hy1 hy2 rfl (.slice ua k uc) k es [2] HLEN rfl LB.out.e (some ⟨w2.heap.size, 0, none⟩) 1 1 rfl (Lib.hid rfl) NB.out (by unfold maxLen; omega) (by omega) hbs ?_; intro ra9 rc9 w9 own9 grow9 _; rw [← HNE2.out] at own9; have L9 := Lib.hid (LB.out.err own9 grow9); clear own9 grow9)
                | fail)
              go_roundw
              case rel => exact ⟨k + 1, _, _, _, _, ra9, rc9, _, _, by omega, by go_num, rfl, rfl, rfl, Lib.hid (by rw [HS.out]; exact L9.out)⟩
              case measure => simp [intOf]; omega
            · have hd1 : decide (31 < lv) = false := decide_eq_false h31
              by_cases hh : heldU st id = true
              · obtain ⟨a, q, rfl, hq, hqi⟩ := atI_yes HAT.out hh
                have HH := Lib.hid hh
                have ha0 : (0 : Int) ≤ (a : Int) := by omega
                clear hh hq
                have HX : Hid (errU st ⟨1, id, lv⟩ = 6) := Lib.hid (by unfold errU; simp [HH.out]; omega)
                have LB := Lib.hid (L2.out.step (below_alloc w2 (.cells #[.int .i64 6] 28)))
                have NB := Lib.hid (int_litE w2 6 1)
                have hbs : w.heap.size ≤ (w2.alloc (.cells #[.int .i64 6] 28)).heap.size := LB.out.b.size
                have HNE2 : Hid (errsU newU (ops.take (k + 1)) = es ++ [6]) := Lib.hid (by rw [HNE.out, HX.out])
                have HS : Hid (runU newU (ops.take (k + 1)) = st) := Lib.hid (by rw [HNR.out]; exact by unfold stepU; rw [if_neg (by rw [HX.out]; decide)])
                go_wp2_with (first
                  | (at_builtin; refine wpList_append_n shI rfl _ _ 23 rfl w.heap.size 28 j0 _ 8 Try.underlying23 hj hy0 hy1 hy2 rfl (.slice ua k uc) k es [6] HLEN rfl LB.out.e (some ⟨w2.heap.size, 0, none⟩) 1 1 rfl (Lib.hid rfl) NB.out (by unfold maxLen; omega) (by omega) hbs ?_; intro ra9 rc9 w9 own9 grow9 _; rw [← HNE2.out] at own9; have L9 := Lib.hid (LB.out.err own9 grow9); clear own9 grow9)
                  | fail)
                go_roundw
                case rel => exact ⟨k + 1, _, _, _, _, ra9, rc9, _, _, by omega, by go_num, rfl, rfl, rfl, Lib.hid (by rw [HS.out]; exact L9.out)⟩
                case measure => simp [intOf]; omega
              · have hh2 : heldU st id = false := by simpa using hh
                obtain rfl := atI_no HAT.out hh2
                have HH := Lib.hid hh2
                clear hh hh2
                have HX : Hid (errU st ⟨1, id, lv⟩ = 0) := Lib.hid (by unfold errU; simp [HH.out]; omega)
                have HM2 := Lib.hid (que_at L2.out.q)
                go_upto_region 19 with fail
                go_loopw [14] (fun j wq => ∃ c q : Nat, c ≤ ln ∧ j = .int .i64 c ∧ wq = w2.drewN q ∧ Hid (∀ j' q', j' < c → st.list[j']? = some q' → addP lv q' = true)) (fun j _ => ln - (intOf j).toNat)
                case atStart => exact ⟨0, 0, Nat.zero_le _, rfl, rfl, Lib.hid (fun j' q' h => by omega)⟩
                case round =>
                  obtain ⟨c, q, hc, rfl, rfl, HP⟩ := hrel
                  by_cases hlc : c < ln
                  · obtain ⟨y, hy⟩ : ∃ y, st.list[c]? = some y := ⟨st.list[c]'(by rw [HLL.out]; exact hlc), List.getElem?_eq_getElem _⟩
                    obtain ⟨b2, off2, rfl, hb2, d0, d1⟩ := at_en HM2.out hy
                    obtain ⟨yi, yl⟩ := y
                    simp only at d0 d1
                    have HY := Lib.hid hy
                    have hlc2 : (c : Int) < (ln : Int) := by omega
                    have hlc3 : decide ((c : Int) < (ln : Int)) = true := decide_eq_true hlc2
                    clear hy
                    by_cases hgt : lv < yl
                    · have hg1 : decide (lv < yl) = true := decide_eq_true hgt
                      go_wp2_with fail
                      go_quiet (fail)
                      go_wp2_with fail
                      go_roundw
                      case rel => exact ⟨c + 1, _, by omega, by go_num, rfl, Lib.hid (fun j' q' hj hq' => by
                        by_cases e : j' = c
                        · subst e
                          have h3 := HY.out
                          rw [h3] at hq'
                          cases hq'
                          first
                            | (simp [addP]; done)
                            | (simp [addP]; omega)
                        · exact HP.out j' q' (by omega) hq')⟩
                      case measure => simp [intOf]; omega
                    · have hg1 : decide (lv < yl) = false := decide_eq_false hgt
                      by_cases heq : yl = lv
                      · subst heq
                        go_wp2_with fail
                        go_quiet (fail)
                        go_wp2_with fail
                        go_roundw
                        case rel => exact ⟨c + 1, _, by omega, by go_num, rfl, Lib.hid (fun j' q' hj hq' => by
                          by_cases e : j' = c
                          · subst e
                            have h3 := HY.out
                            rw [h3] at hq'
                            cases hq'
                            first
                              | (simp [addP]; done)
                              | (simp [addP]; omega)
                          · exact HP.out j' q' (by omega) hq')⟩
                        case measure => simp [intOf]; omega
                      · have heq2 : (yl == lv) = false := by simpa using heq
                        have hat : atU (addP lv) st.list = c := at_is (fun j q hj hq => HP.out j q hj hq) (by rw [HLL.out]; omega) (fun q hq => by rw [HY.out] at hq; cases hq; simp [addP]; omega)
                        have HIN := Lib.hid (fun q => ins_M L2.out (addP lv) id lv hlb hat q)
                        have HSI : Hid (doU st ⟨1, id, lv⟩ = ⟨putU (addP lv) (id, lv) st.list, st.taken⟩) := Lib.hid (do_1 st id lv)
                        clear hat
                        go_wp2_with fail
                        go_quiet (fail)
                        go_wp2_with (first
                          | (go_at_call 30; (with_reducible refine (HIN.out _).mono ?_); rintro e w4 ⟨ra4, rc4, rfl, h4⟩; have L4 := Lib.hid h4; have bB := below_alloc w4 (.cells #[.int .i64 0] 28); have LB := Lib.hid (L4.out.step bB); have NB := Lib.hid (int_litE w4 0 1); have hbs : w.heap.size ≤ (w4.alloc (.cells #[.int .i64 0] 28)).heap.size := LB.out.b.size; have HNE2 : Hid (errsU newU (ops.take (k + 1)) = es ++ [0]) := Lib.hid (by rw [HNE.out, HX.out]); have HS : Hid (runU newU (ops.take (k + 1)) = ⟨putU (addP lv) (id, lv) st.list, st.taken⟩) := Lib.hid (by rw [HNR.out, err_step HX.out, HSI.out]); clear bB h4)
                          | (at_builtin; refine wpList_append_n shI rfl _ _ 23 rfl w.heap.size 28 j0 _ 8 Try.underlying23 hj hy0 hy1 hy2 rfl (.slice ua k uc) k es [0] HLEN rfl LB.out.e (some ⟨w4.heap.size, 0, none⟩) 1 1 rfl (Lib.hid rfl) NB.out (by unfold maxLen; omega) (by omega) hbs ?_; intro ra9 rc9 w9 own9 grow9 _; rw [← HNE2.out] at own9; have L9 := Lib.hid (LB.out.err own9 grow9); clear own9 grow9)
                          | fail)
                        go_roundw
                        case rel => exact ⟨k + 1, _, _, _, _, ra9, rc9, _, _, by omega, by go_num, rfl, rfl, rfl, Lib.hid (by rw [HS.out]; exact L9.out)⟩
                        case measure => simp [intOf]; omega
                  · obtain rfl : c = ln := by omega
                    have hlc3 : decide ((c : Int) < (c : Int)) = false := by simp
                    have hat : atU (addP lv) st.list = c := at_is (fun j q hj hq => HP.out j q hj hq) (by rw [HLL.out]; omega) (fun q hq => by have h1 := (List.getElem?_eq_some_iff.1 hq).1; rw [HLL.out] at h1; omega)
                    have HIN := Lib.hid (fun q => ins_M L2.out (addP lv) id lv hlb hat q)
                    have HSI : Hid (doU st ⟨1, id, lv⟩ = ⟨putU (addP lv) (id, lv) st.list, st.taken⟩) := Lib.hid (do_1 st id lv)
                    clear hat
                    go_wp2_with fail
                    go_quiet (fail)
                    go_wp2_with (first
                      | (go_at_call 30; (with_reducible refine (HIN.out _).mono ?_); rintro e w4 ⟨ra4, rc4, rfl, h4⟩; have L4 := Lib.hid h4; have bB := below_alloc w4 (.cells #[.int .i64 0] 28); have LB := Lib.hid (L4.out.step bB); have NB := Lib.hid (int_litE w4 0 1); have hbs : w.heap.size ≤ (w4.alloc (.cells #[.int .i64 0] 28)).heap.size := LB.out.b.size; have HNE2 : Hid (errsU newU (ops.take (k + 1)) = es ++ [0]) := Lib.hid (by rw [HNE.out, HX.out]); have HS : Hid (runU newU (ops.take (k + 1)) = ⟨putU (addP lv) (id, lv) st.list, st.taken⟩) := Lib.hid (by rw [HNR.out, err_step HX.out, HSI.out]); clear bB h4)
                      | (at_builtin; refine wpList_append_n shI rfl _ _ 23 rfl w.heap.size 28 j0 _ 8 Try.underlying23 hj hy0 hy1 hy2 rfl (.slice ua k uc) k es [0] HLEN rfl LB.out.e (some ⟨w4.heap.size, 0, none⟩) 1 1 rfl (Lib.hid rfl) NB.out (by unfold maxLen; omega) (by omega) hbs ?_; intro ra9 rc9 w9 own9 grow9 _; rw [← HNE2.out] at own9; have L9 := Lib.hid (LB.out.err own9 grow9); clear own9 grow9)
                      | fail)
                    go_roundw
                    case rel => exact ⟨k + 1, _, _, _, _, ra9, rc9, _, _, by omega, by go_num, rfl, rfl, rfl, Lib.hid (by rw [HS.out]; exact L9.out)⟩
                    case measure => simp [intOf]; omega
      · clear h1 h4
        as_aux_lemma =>
          by_cases h0 : lv < 0
          · have hd0 : decide (lv < 0) = true := decide_eq_true h0
            have HX : Hid (errU st ⟨2, id, lv⟩ = 2) := Lib.hid (by unfold errU; simp; omega)
            have LB := Lib.hid (L2.out.step (below_alloc w2 (.cells #[.int .i64 2] 28)))
            have NB := Lib.hid (int_litE w2 2 1)
            have hbs : w.heap.size ≤ (w2.alloc (.cells #[.int .i64 2] 28)).heap.size := LB.out.b.size
            have HNE2 : Hid (errsU newU (ops.take (k + 1)) = es ++ [2]) := Lib.hid (by rw [HNE.out, HX.out])
            have HS : Hid (runU newU (ops.take (k + 1)) = st) := Lib.hid (by rw [HNR.out]; exact by unfold stepU; rw [if_neg (by rw [HX.out]; decide)])
            go_wp2_with (first
              | (at_builtin; refine wpList_append_n shI rfl _ _ 23 rfl w.heap.size 28 j0 _ 8 Try.underlying23 hj hy0 hy1 hy2 rfl (.slice ua k uc) k es [2] HLEN rfl LB.out.e (some ⟨w2.heap.size, 0, none⟩) 1 1 rfl (Lib.hid rfl) NB.out (by unfold maxLen; omega) (by omega) hbs ?_; intro ra9 rc9 w9 own9 grow9 _; rw [← HNE2.out] at own9; have L9 := Lib.hid (LB.out.err own9 grow9); clear own9 grow9)
              | fail)
            go_roundw
            case rel => exact ⟨k + 1, _, _, _, _, ra9, rc9, _, _, by omega, by go_num, rfl, rfl, rfl, Lib.hid (by rw [HS.out]; exact L9.out)⟩
            case measure => simp [intOf]; omega
          · have hd0 : decide (lv < 0) = false := decide_eq_false h0
            by_cases h31 : 31 < lv
            · have hd1 : decide (31 < lv) = true := decide_eq_true h31
              have HX : Hid (errU st ⟨2, id, lv⟩ = 2) := Lib.hid (by unfold errU; simp; omega)
              have LB := Lib.hid (L2.out.step (below_alloc w2 (.cells #[.int .i64 2] 28)))
              have NB := Lib.hid (int_litE w2 2 1)
              have hbs : w.heap.size ≤ (w2.alloc (.cells #[.int .i64 2] 28)).heap.size := LB.out.b.size
              have HNE2 : Hid (errsU newU (ops.take (k + 1)) = es ++ [2]) := Lib.hid (by rw [HNE.out, HX.out])
              have HS : Hid (runU newU (ops.take (k + 1)) = st) := Lib.hid (by rw [HNR.out]; exact by unfold stepU; rw [if_neg (by rw [HX.out]; decide)])
              go_wp2_with (first
                | (at_builtin; refine wpList_append_n shI rfl _ _ 23 rfl w.heap.size 28 j0 _ 8 Try.underlying23 hj hy0 hy1 hy2 rfl (.slice ua k uc) k es [2] HLEN rfl LB.out.e (some ⟨w2.heap.size, 0, none⟩) 1 1 rfl (Lib.hid rfl) NB.out (by unfold maxLen; omega) (by omega) hbs ?_; intro ra9 rc9 w9 own9 grow9 _; rw [← HNE2.out] at own9; have L9 := Lib.hid (LB.out.err own9 grow9); clear own9 grow9)
                | fail)
              go_roundw
              case rel => exact ⟨k + 1, _, _, _, _, ra9, rc9, _, _, by omega, by go_num, rfl, rfl, rfl, Lib.hid (by rw [HS.out]; exact L9.out)⟩
              case measure => simp [intOf]; omega
            · have hd1 : decide (31 < lv) = false := decide_eq_false h31
              by_cases hh : heldU st id = true
              · obtain ⟨a, q, rfl, hq, hqi⟩ := atI_yes HAT.out hh
                have HH := Lib.hid hh
                have ha0 : (0 : Int) ≤ (a : Int) := by omega
                clear hh hq
                have HX : Hid (errU st ⟨2, id, lv⟩ = 6) := Lib.hid (by unfold errU; simp [HH.out]; omega)
                have LB := Lib.hid (L2.out.step (below_alloc w2 (.cells #[.int .i64 6] 28)))
                have NB := Lib.hid (int_litE w2 6 1)
                have hbs : w.heap.size ≤ (w2.alloc (.cells #[.int .i64 6] 28)).heap.size := LB.out.b.size
                have HNE2 : Hid (errsU newU (ops.take (k + 1)) = es ++ [6]) := Lib.hid (by rw [HNE.out, HX.out])
                have HS : Hid (runU newU (ops.take (k + 1)) = st) := Lib.hid (by rw [HNR.out]; exact by unfold stepU; rw [if_neg (by rw [HX.out]; decide)])
                go_wp2_with (first
                  | (at_builtin; refine wpList_append_n shI rfl _ _ 23 rfl w.heap.size 28 j0 _ 8 Try.underlying23 hj hy0 hy1 hy2 rfl (.slice ua k uc) k es [6] HLEN rfl LB.out.e (some ⟨w2.heap.size, 0, none⟩) 1 1 rfl (Lib.hid rfl) NB.out (by unfold maxLen; omega) (by omega) hbs ?_; intro ra9 rc9 w9 own9 grow9 _; rw [← HNE2.out] at own9; have L9 := Lib.hid (LB.out.err own9 grow9); clear own9 grow9)
                  | fail)
                go_roundw
                case rel => exact ⟨k + 1, _, _, _, _, ra9, rc9, _, _, by omega, by go_num, rfl, rfl, rfl, Lib.hid (by rw [HS.out]; exact L9.out)⟩
                case measure => simp [intOf]; omega
              · have hh2 : heldU st id = false := by simpa using hh
                obtain rfl := atI_no HAT.out hh2
                have HH := Lib.hid hh2
                clear hh hh2
                have HX : Hid (errU st ⟨2, id, lv⟩ = 0) := Lib.hid (by unfold errU; simp [HH.out]; omega)
                have HM2 := Lib.hid (que_at L2.out.q)
                go_upto_region 19 with fail
                go_loopw [14] (fun j wq => ∃ c q : Nat, c ≤ ln ∧ j = .int .i64 c ∧ wq = w2.drewN q ∧ Hid (∀ j' q', j' < c → st.list[j']? = some q' → headP lv q' = true)) (fun j _ => ln - (intOf j).toNat)
                case atStart => exact ⟨0, 0, Nat.zero_le _, rfl, rfl, Lib.hid (fun j' q' h => by omega)⟩
                case round =>
                  obtain ⟨c, q, hc, rfl, rfl, HP⟩ := hrel
                  by_cases hlc : c < ln
                  · obtain ⟨y, hy⟩ : ∃ y, st.list[c]? = some y := ⟨st.list[c]'(by rw [HLL.out]; exact hlc), List.getElem?_eq_getElem _⟩
                    obtain ⟨b2, off2, rfl, hb2, d0, d1⟩ := at_en HM2.out hy
                    obtain ⟨yi, yl⟩ := y
                    simp only at d0 d1
                    have HY := Lib.hid hy
                    have hlc2 : (c : Int) < (ln : Int) := by omega
                    have hlc3 : decide ((c : Int) < (ln : Int)) = true := decide_eq_true hlc2
                    clear hy
                    by_cases hgt : lv < yl
                    · have hg1 : decide (lv < yl) = true := decide_eq_true hgt
                      go_wp2_with fail
                      go_quiet (fail)
                      go_wp2_with fail
                      go_roundw
                      case rel => exact ⟨c + 1, _, by omega, by go_num, rfl, Lib.hid (fun j' q' hj hq' => by
                        by_cases e : j' = c
                        · subst e
                          have h3 := HY.out
                          rw [h3] at hq'
                          cases hq'
                          first
                            | (simp [headP]; done)
                            | (simp [headP]; omega)
                        · exact HP.out j' q' (by omega) hq')⟩
                      case measure => simp [intOf]; omega
                    · have hg1 : decide (lv < yl) = false := decide_eq_false hgt
                      have hat : atU (headP lv) st.list = c := at_is (fun j q hj hq => HP.out j q hj hq) (by rw [HLL.out]; omega) (fun q hq => by rw [HY.out] at hq; cases hq; simp [headP]; omega)
                      have HIN := Lib.hid (fun q => ins_M L2.out (headP lv) id lv hlb hat q)
                      have HSI : Hid (doU st ⟨2, id, lv⟩ = ⟨putU (headP lv) (id, lv) st.list, st.taken⟩) := Lib.hid (do_2 st id lv)
                      clear hat
                      go_wp2_with fail
                      go_quiet (fail)
                      go_wp2_with (first
                        | (go_at_call 30; (with_reducible refine (HIN.out _).mono ?_); rintro e w4 ⟨ra4, rc4, rfl, h4⟩; have L4 := Lib.hid h4; have bB := below_alloc w4 (.cells #[.int .i64 0] 28); have LB := Lib.hid (L4.out.step bB); have NB := Lib.hid (int_litE w4 0 1); have hbs : w.heap.size ≤ (w4.alloc (.cells #[.int .i64 0] 28)).heap.size := LB.out.b.size; have HNE2 : Hid (errsU newU (ops.take (k + 1)) = es ++ [0]) := Lib.hid (by rw [HNE.out, HX.out]); have HS : Hid (runU newU (ops.take (k + 1)) = ⟨putU (headP lv) (id, lv) st.list, st.taken⟩) := Lib.hid (by rw [HNR.out, err_step HX.out, HSI.out]); clear bB h4)
                        | (at_builtin; refine wpList_append_n shI rfl _ _ 23 rfl w.heap.size 28 j0 _ 8 Try.underlying23 hj hy0 hy1 hy2 rfl (.slice ua k uc) k es [0] HLEN rfl LB.out.e (some ⟨w4.heap.size, 0, none⟩) 1 1 rfl (Lib.hid rfl) NB.out (by unfold maxLen; omega) (by omega) hbs ?_; intro ra9 rc9 w9 own9 grow9 _; rw [← HNE2.out] at own9; have L9 := Lib.hid (LB.out.err own9 grow9); clear own9 grow9)
                        | fail)
                      go_roundw
                      case rel => exact ⟨k + 1, _, _, _, _, ra9, rc9, _, _, by omega, by go_num, rfl, rfl, rfl, Lib.hid (by rw [HS.out]; exact L9.out)⟩
                      case measure => simp [intOf]; omega
                  · obtain rfl : c = ln := by omega
                    have hlc3 : decide ((c : Int) < (c : Int)) = false := by simp
                    have hat : atU (headP lv) st.list = c := at_is (fun j q hj hq => HP.out j q hj hq) (by rw [HLL.out]; omega) (fun q hq => by have h1 := (List.getElem?_eq_some_iff.1 hq).1; rw [HLL.out] at h1; omega)
                    have HIN := Lib.hid (fun q => ins_M L2.out (headP lv) id lv hlb hat q)
                    have HSI : Hid (doU st ⟨2, id, lv⟩ = ⟨putU (headP lv) (id, lv) st.list, st.taken⟩) := Lib.hid (do_2 st id lv)
                    clear hat
                    go_wp2_with fail
                    go_quiet (fail)
                    go_wp2_with (first
                      | (go_at_call 30; (with_reducible refine (HIN.out _).mono ?_); rintro e w4 ⟨ra4, rc4, rfl, h4⟩; have L4 := Lib.hid h4; have bB := below_alloc w4 (.cells #[.int .i64 0] 28); have LB := Lib.hid (L4.out.step bB); have NB := Lib.hid (int_litE w4 0 1); have hbs : w.heap.size ≤ (w4.alloc (.cells #[.int .i64 0] 28)).heap.size := LB.out.b.size; have HNE2 : Hid (errsU newU (ops.take (k + 1)) = es ++ [0]) := Lib.hid (by rw [HNE.out, HX.out]); have HS : Hid (runU newU (ops.take (k + 1)) = ⟨putU (headP lv) (id, lv) st.list, st.taken⟩) := Lib.hid (by rw [HNR.out, err_step HX.out, HSI.out]); clear bB h4)
                      | (at_builtin; refine wpList_append_n shI rfl _ _ 23 rfl w.heap.size 28 j0 _ 8 Try.underlying23 hj hy0 hy1 hy2 rfl (.slice ua k uc) k es [0] HLEN rfl LB.out.e (some ⟨w4.heap.size, 0, none⟩) 1 1 rfl (Lib.hid rfl) NB.out (by unfold maxLen; omega) (by omega) hbs ?_; intro ra9 rc9 w9 own9 grow9 _; rw [← HNE2.out] at own9; have L9 := Lib.hid (LB.out.err own9 grow9); clear own9 grow9)
                      | fail)
                    go_roundw
                    case rel => exact ⟨k + 1, _, _, _, _, ra9, rc9, _, _, by omega, by go_num, rfl, rfl, rfl, Lib.hid (by rw [HS.out]; exact L9.out)⟩
                    case measure => simp [intOf]; omega
      · clear h1 h4
        by_cases hl0 : st.list = []
        · have hln : ln = 0 := by rw [← HLL.out, hl0]; rfl
          subst hln
          have HL0 := Lib.hid hl0
          clear hl0
          have HX : Hid (errU st ⟨3, id, lv⟩ = 3) := Lib.hid (by unfold errU; simp [HL0.out])
          have LB := Lib.hid (L2.out.step (below_alloc w2 (.cells #[.int .i64 3] 28)))
          have NB := Lib.hid (int_litE w2 3 1)
          have hbs : w.heap.size ≤ (w2.alloc (.cells #[.int .i64 3] 28)).heap.size := LB.out.b.size
          have HNE2 : Hid (errsU newU (ops.take (k + 1)) = es ++ [3]) := Lib.hid (by rw [HNE.out, HX.out])
          have HS : Hid (runU newU (ops.take (k + 1)) = st) := Lib.hid (by rw [HNR.out]; exact by unfold stepU; rw [if_neg (by rw [HX.out]; decide)])
          go_wp2_with (first
            | (at_builtin; refine wpList_append_n shI rfl _ _ 23 rfl w.heap.size 28 j0 _ 8 Try.underlying23 hj hy0 hy1 hy2 rfl (.slice ua k uc) k es [3] HLEN rfl LB.out.e (some ⟨w2.heap.size, 0, none⟩) 1 1 rfl (Lib.hid rfl) NB.out (by unfold maxLen; omega) (by omega) hbs ?_; intro ra9 rc9 w9 own9 grow9 _; rw [← HNE2.out] at own9; have L9 := Lib.hid (LB.out.err own9 grow9); clear own9 grow9)
            | fail)
          go_roundw
          case rel => exact ⟨k + 1, _, _, _, _, ra9, rc9, _, _, by omega, by go_num, rfl, rfl, rfl, Lib.hid (by rw [HS.out]; exact L9.out)⟩
          case measure => simp [intOf]; omega
        · obtain ⟨y, rest, hyl⟩ : ∃ y rest, st.list = y :: rest := by
            cases hs : st.list with
            | nil => exact absurd hs hl0
            | cons y rest => exact ⟨y, rest, rfl⟩
          obtain ⟨m, rfl⟩ : ∃ m, ln = m + 1 := ⟨rest.length, by rw [← HLL.out, hyl]; rfl⟩
          obtain ⟨b2, off2, rfl, hb2, d0, d1⟩ := at_en (que_at L2.out.q) (show st.list[0]? = some y by rw [hyl]; rfl)
          rw [Nat.zero_mul, Nat.add_zero] at d0 d1
          obtain ⟨yi, yl⟩ := y
          simp only at d0 d1
          obtain ⟨_, _, hlv, hlcm, hlmx, _, _⟩ := que_shape L2.out.q
          simp only [Value.slice.injEq, true_and] at hlv
          obtain ⟨rfl, rfl⟩ := hlv
          have HX : Hid (errU st ⟨3, id, lv⟩ = 0) := Lib.hid (by unfold errU; simp [hyl])
          have HYL := Lib.hid hyl
          have bD : Below w2.heap.size w2 (w2.drew.alloc (.cells #[.int .i64 yi] 3)) := ((Below.refl _ _).drew).alloc (Nat.le_refl _) _
          have LD := Lib.hid (L2.out.step bD)
          have ND := Lib.hid (int_lit w2.drew yi 1)
          have hm0 : ¬ ((m : Int) + 1 = 0) := by omega
          have hm1 : ((m : Int) + 1 == 0) = false := by simp; omega
          have hm2 : (0 : Int) < (m : Int) + 1 := by omega
          have hm3 : (1 : Int) ≤ (m : Int) + 1 := by omega
          clear hl0 hyl bD
          by_cases hc1 : lc = 1
          · subst hc1
            obtain rfl : m = 0 := by omega
            skip
            go_upto_region 26 with fail
            go_region_law (refine step_append_n shI rfl _ _ 24 rfl w.heap.size 3 i0 _ 8 Try.underlying24 hi hz0 hz1 hz2 rfl (.slice ta tn tc) tn st.taken [yi] HTL (by simp [Act.eval]) LD.out.t (some ⟨w2.heap.size, 0, none⟩) 1 1 (by simp [Act.eval]) (Lib.hid rfl) ND.out (by unfold maxLen; omega) (by omega) LD.out.b.size ?_; intro ra4 rc4 w4 own4 grow4 _; have L4 := Lib.hid (LD.out.tak own4 grow4); clear own4 grow4)
            have L5 : Hid (LpM w w4 ⟨rest, st.taken ++ [yi]⟩ es (.slice (some ⟨b2, off2, none⟩) 0 0) (.slice ua k uc) (.slice ra4 (tn + 1) rc4) 0 k (tn + 1)) := Lib.hid ⟨by
              have h := L4.out.q
              rw [show (⟨st.list, st.taken ++ [yi]⟩ : StU).list = (yi, yl) :: rest from HYL.out] at h
              have h2 := que_drop h 1 (by omega)
              have hr0 : rest = [] := List.eq_nil_of_length_eq_zero (by have := h2.1; simpa using this)
              rw [hr0]
              exact que_end (n' := 0 + 1) (cap := 1) (l := (yi, yl) :: rest) (by exact h), L4.out.e, L4.out.t, L4.out.b⟩
            have LB := Lib.hid (L5.out.step (below_alloc w4 (.cells #[.int .i64 0] 28)))
            have NB := Lib.hid (int_litE w4 0 1)
            have hbs : w.heap.size ≤ (w4.alloc (.cells #[.int .i64 0] 28)).heap.size := LB.out.b.size
            have HNE2 : Hid (errsU newU (ops.take (k + 1)) = es ++ [0]) := Lib.hid (by rw [HNE.out, HX.out])
            have HS : Hid (runU newU (ops.take (k + 1)) = ⟨rest, st.taken ++ [yi]⟩) := Lib.hid (by rw [HNR.out]; exact by rw [err_step HX.out, do_3]; unfold takeU; rw [HYL.out]; rfl)
            go_wp2_with (first
              | (at_builtin; refine wpList_append_n shI rfl _ _ 23 rfl w.heap.size 28 j0 _ 8 Try.underlying23 hj hy0 hy1 hy2 rfl (.slice ua k uc) k es [0] HLEN rfl LB.out.e (some ⟨w4.heap.size, 0, none⟩) 1 1 rfl (Lib.hid rfl) NB.out (by unfold maxLen; omega) (by omega) hbs ?_; intro ra9 rc9 w9 own9 grow9 _; rw [← HNE2.out] at own9; have L9 := Lib.hid (LB.out.err own9 grow9); clear own9 grow9)
              | fail)
            go_roundw
            case rel => exact ⟨k + 1, _, _, _, _, ra9, rc9, _, _, by omega, by go_num, rfl, rfl, rfl, Lib.hid (by rw [HS.out]; exact L9.out)⟩
            case measure => simp [intOf]; omega
          · have hc2 : ¬ lc = 0 := by omega
            skip
            go_upto_region 26 with fail
            go_region_law (refine step_append_n shI rfl _ _ 24 rfl w.heap.size 3 i0 _ 8 Try.underlying24 hi hz0 hz1 hz2 rfl (.slice ta tn tc) tn st.taken [yi] HTL (by simp [Act.eval]) LD.out.t (some ⟨w2.heap.size, 0, none⟩) 1 1 (by simp [Act.eval]) (Lib.hid rfl) ND.out (by unfold maxLen; omega) (by omega) LD.out.b.size ?_; intro ra4 rc4 w4 own4 grow4 _; have L4 := Lib.hid (LD.out.tak own4 grow4); clear own4 grow4)
            have L5 : Hid (LpM w w4 ⟨rest, st.taken ++ [yi]⟩ es (.slice (some ⟨b2, off2 + 2, none⟩) m (lc - 1)) (.slice ua k uc) (.slice ra4 (tn + 1) rc4) m k (tn + 1)) := Lib.hid ⟨by
              have h := L4.out.q
              rw [show (⟨st.list, st.taken ++ [yi]⟩ : StU).list = (yi, yl) :: rest from HYL.out] at h
              have h2 := que_drop h 1 (by omega)
              exact h2, L4.out.e, L4.out.t, L4.out.b⟩
            have LB := Lib.hid (L5.out.step (below_alloc w4 (.cells #[.int .i64 0] 28)))
            have NB := Lib.hid (int_litE w4 0 1)
            have hbs : w.heap.size ≤ (w4.alloc (.cells #[.int .i64 0] 28)).heap.size := LB.out.b.size
            have HNE2 : Hid (errsU newU (ops.take (k + 1)) = es ++ [0]) := Lib.hid (by rw [HNE.out, HX.out])
            have HS : Hid (runU newU (ops.take (k + 1)) = ⟨rest, st.taken ++ [yi]⟩) := Lib.hid (by rw [HNR.out]; exact by rw [err_step HX.out, do_3]; unfold takeU; rw [HYL.out]; rfl)
            go_wp2_with (first
              | (at_builtin; refine wpList_append_n shI rfl _ _ 23 rfl w.heap.size 28 j0 _ 8 Try.underlying23 hj hy0 hy1 hy2 rfl (.slice ua k uc) k es [0] HLEN rfl LB.out.e (some ⟨w4.heap.size, 0, none⟩) 1 1 rfl (Lib.hid rfl) NB.out (by unfold maxLen; omega) (by omega) hbs ?_; intro ra9 rc9 w9 own9 grow9 _; rw [← HNE2.out] at own9; have L9 := Lib.hid (LB.out.err own9 grow9); clear own9 grow9)
              | fail)
            go_roundw
            case rel => exact ⟨k + 1, _, _, _, _, ra9, rc9, _, _, by omega, by go_num, rfl, rfl, rfl, Lib.hid (by rw [HS.out]; exact L9.out)⟩
            case measure => simp [intOf]; omega
      · clear h1 h4
        as_aux_lemma =>
          by_cases hh : heldU st id = true
          · obtain ⟨a, q, rfl, hq, hqi⟩ := atI_yes HAT.out hh
            have HX : Hid (errU st ⟨4, id, lv⟩ = 0) := Lib.hid (by unfold errU; simp [hh])
            have ha0 : ¬ ((a : Int) < 0) := by omega
            have han : a < ln := by have := (List.getElem?_eq_some_iff.1 hq).1; rw [HLL.out] at this; exact this
            have haw : IntKind.i64.wrap ((a : Int) + 1) = (a : Int) + 1 := by rw [IntKind.wrap_i64]; omega
            have HFC : Hid (st.list.take a ++ st.list.drop (a + 1) = st.list.filter fun x => decide (¬ x.1 = id)) := Lib.hid (filter_cutE HGD.out.nod hq hqi)
            have HSD := Lib.hid (do_4 st id lv)
            have HM2 := Lib.hid (que_at L2.out.q)
            clear hh hq hqi
            go_wp2_with (first
              | (go_at_call 32; (with_reducible refine (clone_Q _ _ _ _ _ HLL HM2 hlb).mono ?_); rintro e w3 ⟨ra3, rc3, rfl, ho3, hb3⟩; have O3 := Lib.hid ho3; have B3 := Lib.hid hb3; clear ho3 hb3)
              | (go_at_call 31; (with_reducible refine (delq_any _ _ _ _ _ _ _ O3 HLL han).mono ?_); rintro e w4 ⟨m, hm1, rfl, hq4, hg4⟩; rw [HFC.out] at hq4; have L4 := Lib.hid (L2.out.fresh B3.out hq4 hg4 (fun g hg => (own_lt O3.out hg).1)); have bB := below_alloc w4 (.cells #[.int .i64 0] 28); have LB := Lib.hid (L4.out.step bB); have NB := Lib.hid (int_litE w4 0 1); have hbs : w.heap.size ≤ (w4.alloc (.cells #[.int .i64 0] 28)).heap.size := LB.out.b.size; have HNE2 : Hid (errsU newU (ops.take (k + 1)) = es ++ [0]) := Lib.hid (by rw [HNE.out, HX.out]); have HS : Hid (runU newU (ops.take (k + 1)) = ⟨st.list.filter fun x => decide (¬ x.1 = id), st.taken⟩) := Lib.hid (by rw [HNR.out, err_step HX.out, HSD.out]); clear bB hq4 hg4)
              | (at_builtin; refine wpList_append_n shI rfl _ _ 23 rfl w.heap.size 28 j0 _ 8 Try.underlying23 hj hy0 hy1 hy2 rfl (.slice ua k uc) k es [0] HLEN rfl LB.out.e (some ⟨w4.heap.size, 0, none⟩) 1 1 rfl (Lib.hid rfl) NB.out (by unfold maxLen; omega) (by omega) hbs ?_; intro ra9 rc9 w9 own9 grow9 _; rw [← HNE2.out] at own9; have L9 := Lib.hid (LB.out.err own9 grow9); clear own9 grow9)
              | fail)
            go_roundw
            case rel => exact ⟨k + 1, _, _, _, _, ra9, rc9, _, _, by omega, by go_num, rfl, rfl, rfl, Lib.hid (by rw [HS.out]; exact L9.out)⟩
            case measure => simp [intOf]; omega
          · have hh2 : heldU st id = false := by simpa using hh
            obtain rfl := atI_no HAT.out hh2
            have HH := Lib.hid hh2
            clear hh hh2
            have HX : Hid (errU st ⟨4, id, lv⟩ = 3) := Lib.hid (by unfold errU; simp [HH.out])
            have LB := Lib.hid (L2.out.step (below_alloc w2 (.cells #[.int .i64 3] 28)))
            have NB := Lib.hid (int_litE w2 3 1)
            have hbs : w.heap.size ≤ (w2.alloc (.cells #[.int .i64 3] 28)).heap.size := LB.out.b.size
            have HNE2 : Hid (errsU newU (ops.take (k + 1)) = es ++ [3]) := Lib.hid (by rw [HNE.out, HX.out])
            have HS : Hid (runU newU (ops.take (k + 1)) = st) := Lib.hid (by rw [HNR.out]; exact by unfold stepU; rw [if_neg (by rw [HX.out]; decide)])
            go_wp2_with (first
              | (at_builtin; refine wpList_append_n shI rfl _ _ 23 rfl w.heap.size 28 j0 _ 8 Try.underlying23 hj hy0 hy1 hy2 rfl (.slice ua k uc) k es [3] HLEN rfl LB.out.e (some ⟨w2.heap.size, 0, none⟩) 1 1 rfl (Lib.hid rfl) NB.out (by unfold maxLen; omega) (by omega) hbs ?_; intro ra9 rc9 w9 own9 grow9 _; rw [← HNE2.out] at own9; have L9 := Lib.hid (LB.out.err own9 grow9); clear own9 grow9)
              | fail)
            go_roundw
            case rel => exact ⟨k + 1, _, _, _, _, ra9, rc9, _, _, by omega, by go_num, rfl, rfl, rfl, Lib.hid (by rw [HS.out]; exact L9.out)⟩
            case measure => simp [intOf]; omega
    · obtain rfl : k = n := by omega
      have e : ops.take k = ops := by rw [← hm.out, List.take_length]
      rw [e, he.out, hs.out] at HL
      rw [e, hs.out] at HLL HTL
      rw [e, he.out] at HLEN
      have htl : tl = tn := by rw [← HTL.out, ht.out]
      have hll : ll = ln := by rw [← HLL.out, hl.out]
      subst htl hll
      have QL := Lib.hid (que_at HL.out.q)
      clear hlt hk e HGD
      go_upto_region 30 with fail
      generalize wr = w1 at HL QL ⊢
      go_loopw [8, 145] (fun v i wq => ∃ (c : Nat) (xa : Option Addr) (xc : Nat), c ≤ ll ∧ i = .int .i64 c ∧ v = .slice xa c xc ∧ Hid (wq.ownsRow w1.heap.size 3 1 (.slice xa c xc) c (shI.flat ((leftU s0).take c))) ∧ Hid (Below w1.heap.size w1 wq)) (fun _ i _ => ll - (intOf i).toNat)
      case atStart => exact ⟨0, none, 0, Nat.zero_le _, rfl, rfl, Lib.hid (World.ownsRow_nil _ _ _ _), Lib.hid (Below.refl _ _)⟩
      case round =>
        obtain ⟨c, xa, xc, hc, rfl, rfl, HO, HB⟩ := hrel
        by_cases hlc : c < ll
        · obtain ⟨y, hy⟩ : ∃ y, s0.list[c]? = some y := ⟨s0.list[c]'(by rw [HLL.out]; exact hlc), List.getElem?_eq_getElem _⟩
          obtain ⟨b2, off2, rfl, hb2, d0, d1⟩ := at_en QL.out hy
          obtain ⟨yi, yl⟩ := y
          simp only at d0 d1
          have g0 := (HB.out.cell (p := ⟨b2, off2 + c * 2, none⟩) hb2).trans d0
          have g1 := (HB.out.cell (p := ⟨b2, off2 + c * 2 + 1, none⟩) hb2).trans d1
          have hbr : b2 < wr.heap.size := Nat.lt_of_lt_of_le hb2 HB.out.size
          have HNX : Hid ((leftU s0).take (c + 1) = (leftU s0).take c ++ [yi]) := Lib.hid (by rw [List.take_add_one, show (leftU s0)[c]? = some yi by unfold leftU; rw [List.getElem?_map, hy]; rfl]; rfl)
          have HLC : Hid (((leftU s0).take c).length = c) := Lib.hid (by rw [List.length_take, left_len, HLL.out]; omega)
          have BA := below_two wr (.cells #[.int .i64 yi, .int .i64 yl] 60) (.cells #[.int .i64 yi] 3)
          have O2 := Lib.hid (own_step HO.out BA)
          have B2 := Lib.hid (pstep HB.out BA)
          obtain ⟨p0, p1⟩ := pair_at (heap_alloc_new wr (.cells #[.int .i64 yi, .int .i64 yl] 60))
          have N2 : Hid (shI.At ((wr.alloc (.cells #[.int .i64 yi, .int .i64 yl] 60)).alloc (.cells #[.int .i64 yi] 3)) (some ⟨wr.heap.size + 1, 0, none⟩) 1 [yi]) := Lib.hid (by
            have h := int_lit (wr.alloc (.cells #[.int .i64 yi, .int .i64 yl] 60)) yi 1
            rwa [show (wr.alloc (.cells #[.int .i64 yi, .int .i64 yl] 60)).heap.size = wr.heap.size + 1 by simp] at h)
          clear BA d0 d1 hy
          go_wp2_with (first
            | (at_builtin; refine wpList_append_n shI rfl _ _ 24 rfl w1.heap.size 3 i0 _ 8 Try.underlying24 hi hz0 hz1 hz2 rfl (.slice xa c xc) c ((leftU s0).take c) [yi] HLC rfl O2.out (some ⟨wr.heap.size + 1, 0, none⟩) 1 1 rfl (Lib.hid rfl) N2.out (by unfold maxLen; omega) (by omega) B2.out.size ?_; intro ra4 rc4 w4 own4 grow4 _; have B4 := Lib.hid (B2.out.grown grow4 B2.out.size (fun _ hq => (own_lt O2.out hq).1)); rw [← HNX.out] at own4; have O4 := Lib.hid own4; clear own4 grow4)
            | fail)
          go_roundw
          case rel => exact ⟨c + 1, ra4, rc4, by omega, by go_num, rfl, O4, B4⟩
          case measure => simp [intOf]; omega
        · obtain rfl : c = ll := by omega
          have ek : (leftU s0).take c = leftU s0 := by rw [← HLL.out, ← left_len, List.take_length]
          rw [ek] at HO
          clear hlc hc ek
          go_wp2_with fail
          refine bodyPost_ret (v := .tuple #[.slice ua k uc, .slice ta tl tc, .slice xa c xc]) (by simp [results, Try.results10, go_sem]) rfl ?_
          exact ⟨ua, uc, ta, tc, xa, xc, rfl, (Shape.At.own (S := shI) HL.out.e HLEN.out).step HB.out, (Shape.At.own (S := shI) HL.out.t HTL.out).step HB.out, Shape.At.own (S := shI) HO.out (by rw [left_len, HLL.out]), pstep HL.out.b HB.out⟩
end Go.Proofs.Ytgnpodeneknpdaa
