/- corebellref.NRun: what is in memory; plain facts on picking level by level. -/
import Derived.Test.YtningajaimbncaaCorN
import Derived.Test.YtningajaimbncaaOne
namespace Go.Proofs.Ytningajaimbncaa
open Go.RowKit

/-- Slices of numbers, as elements. -/
abbrev SlT := Option Addr × Nat × Nat
def shS : Shape SlT := ⟨1, fun p => [.slice p.1 p.2.1 p.2.2], fun _ => rfl, fun _ u hu => by simp at hu; subst hu; rfl, by decide⟩
theorem at_sl {w : World} {ad : Option Addr} {cap k : Nat} {l : List SlT} {x : SlT} (h : shS.At w ad cap l) (hk : l[k]? = some x) : ∃ b off, ad = some ⟨b, off, none⟩ ∧ b < w.heap.size ∧ w.cell? ⟨b, off + k, none⟩ = some (.slice x.1 x.2.1 x.2.2) := by
  have hkl := (List.getElem?_eq_some_iff.1 hk).1
  obtain ⟨b, off, e, hb, hl⟩ := h.2 (by omega)
  have h0 := shS.flat_at l k 0 x hk (by decide)
  have hs : shS.size = 1 := rfl
  rw [hs, Nat.mul_one, Nat.add_zero] at h0
  rw [hs] at hl
  exact ⟨b, off, e, hb, by rw [hl _ (by omega), h0]; rfl⟩
def castL (l : List Nat) : List Int := l.map fun k => ((k : Nat) : Int)
theorem castL_len (l : List Nat) : (castL l).length = l.length := List.length_map _
theorem castL_get {l : List Nat} {i k : Nat} (h : l[i]? = some k) : (castL l)[i]? = some ((k : Nat) : Int) := by unfold castL; rw [List.getElem?_map, h]; rfl
/-- What is in memory between the ticks. -/
structure LpV (w : World) (b1 : Nat) (wr : World) (BL BR m : Nat) (lf rn : Nat → Int) (lv : Value) (ln : List Nat) (ov : Value) (t : Nat) (rows : Nat → List Int) (ob : Nat) : Prop where
  b : Below w.heap.size w wr
  l : RowZ wr BL m lf
  r : RowZ wr BR m rn
  bl : w.heap.size ≤ BL ∧ BL < b1
  br : w.heap.size ≤ BR ∧ BR < b1
  ne : ¬ BL = BR
  hb : b1 ≤ ob ∧ ob ≤ wr.heap.size
  line : wr.ownsRow b1 3 1 lv ln.length (shI.flat (castL ln))
  out : ∃ vs : List SlT, wr.ownsRow b1 29 1 ov t (shS.flat vs) ∧ vs.length = t ∧ ∀ i p, vs[i]? = some p → p.2.1 = (rows i).length ∧ shI.At wr p.1 p.2.2 (rows i) ∧ ∀ b off, p.1 = some ⟨b, off, none⟩ → b1 ≤ b ∧ b < ob ∧ lv.ownBlock ≠ some b ∧ ov.ownBlock ≠ some b
section
variable {w : World} {b1 : Nat} {wr w' : World} {BL BR m : Nat} {lf rn : Nat → Int} {lv lv' : Value} {ln ln' : List Nat} {ov : Value} {t : Nat} {rows : Nat → List Int} {ob : Nat}
/-- All that it holds is where it was. -/
theorem LpV.same (h : LpV w b1 wr BL BR m lf rn lv ln ov t rows ob) (hB : Below w.heap.size w w') (hs : wr.heap.size ≤ w'.heap.size)
    (hk : ∀ b, b < wr.heap.size → (b = BL ∨ b = BR ∨ lv.ownBlock = some b ∨ ov.ownBlock = some b ∨ (b1 ≤ b ∧ b < ob ∧ lv.ownBlock ≠ some b)) → w'.heap[b]? = wr.heap[b]?) : LpV w b1 w' BL BR m lf rn lv ln ov t rows ob := by
  refine ⟨hB, h.l.same (hk _ h.l.lt (Or.inl rfl)), h.r.same (hk _ h.r.lt (Or.inr (Or.inl rfl))), h.bl, h.br, h.ne, ⟨h.hb.1, Nat.le_trans h.hb.2 hs⟩, own_heap h.line fun g o hg ho => (hk g (heap_lt ho) (Or.inr (Or.inr (Or.inl hg)))).trans ho, ?_⟩
  obtain ⟨vs, h1, h2, h3⟩ := h.out
  refine ⟨vs, own_heap h1 fun g o hg ho => (hk g (heap_lt ho) (Or.inr (Or.inr (Or.inr (Or.inl hg))))).trans ho, h2, fun i p hp => ?_⟩
  obtain ⟨g1, g2, g3⟩ := h3 i p hp
  refine ⟨g1, at_kept g2 fun b off e hb => ?_, g3⟩
  obtain ⟨q1, q2, q3, _⟩ := g3 b off e
  exact ⟨hk b hb (Or.inr (Or.inr (Or.inr (Or.inr ⟨q1, q2, q3⟩)))), Nat.lt_of_lt_of_le hb hs⟩
theorem LpV.step (h : LpV w b1 wr BL BR m lf rn lv ln ov t rows ob) (hb : Below wr.heap.size wr w') : LpV w b1 w' BL BR m lf rn lv ln ov t rows ob :=
  h.same (pstep h.b hb) hb.size fun b hlt _ => hb.block b hlt
theorem LpV.line_ov (h : LpV w b1 wr BL BR m lf rn lv ln ov t rows ob) {g : Nat} (hg : lv.ownBlock = some g) : ov.ownBlock ≠ some g := by
  intro ho
  obtain ⟨vs, h1, _, _⟩ := h.out
  rcases h.line.2 with ⟨rfl, _⟩ | ⟨g', cap, cur, hv, _, hh, _⟩
  · cases hg
  · rw [hv] at hg
    simp only [Value.ownBlock, Option.some.injEq] at hg
    subst hg
    exact own_ne (t := 3) h1 hh (by decide) g' ho rfl
theorem LpV.setL (h : LpV w b1 wr BL BR m lf rn lv ln ov t rows ob) {i : Nat} (hi : i < m) (v : Int) : LpV w b1 (wr.setCell ⟨BL, i, none⟩ (.int .i64 v)) BL BR m (upF lf i v) rn lv ln ov t rows ob := by
  have hk : ∀ b, ¬ b = BL → (wr.setCell ⟨BL, i, none⟩ (.int .i64 v)).heap[b]? = wr.heap[b]? := fun b hb => Below.heap_setCell wr ⟨BL, i, none⟩ _ b hb
  refine ⟨h.b.setCell (p := ⟨BL, i, none⟩) h.bl.1 _, h.l.put hi v, h.r.same (hk _ fun e => h.ne e.symm), h.bl, h.br, h.ne, ⟨h.hb.1, by simpa using h.hb.2⟩, own_set h.line (fun g hg e => by have := (own_lt h.line hg).1; have := h.bl.2; simp only at e; omega) _, ?_⟩
  obtain ⟨vs, h1, h2, h3⟩ := h.out
  refine ⟨vs, own_set h1 (fun g hg e => by have := (own_lt h1 hg).1; have := h.bl.2; simp only at e; omega) _, h2, fun i p hp => ?_⟩
  obtain ⟨g1, g2, g3⟩ := h3 i p hp
  exact ⟨g1, at_kept g2 fun b off e hb => ⟨hk b (by have := (g3 b off e).1; have := h.bl.2; omega), by simpa using hb⟩, g3⟩
theorem LpV.setR (h : LpV w b1 wr BL BR m lf rn lv ln ov t rows ob) {i : Nat} (hi : i < m) (v : Int) : LpV w b1 (wr.setCell ⟨BR, i, none⟩ (.int .i64 v)) BL BR m lf (upF rn i v) lv ln ov t rows ob := by
  have hk : ∀ b, ¬ b = BR → (wr.setCell ⟨BR, i, none⟩ (.int .i64 v)).heap[b]? = wr.heap[b]? := fun b hb => Below.heap_setCell wr ⟨BR, i, none⟩ _ b hb
  refine ⟨h.b.setCell (p := ⟨BR, i, none⟩) h.br.1 _, h.l.same (hk _ h.ne), h.r.put hi v, h.bl, h.br, h.ne, ⟨h.hb.1, by simpa using h.hb.2⟩, own_set h.line (fun g hg e => by have := (own_lt h.line hg).1; have := h.br.2; simp only at e; omega) _, ?_⟩
  obtain ⟨vs, h1, h2, h3⟩ := h.out
  refine ⟨vs, own_set h1 (fun g hg e => by have := (own_lt h1 hg).1; have := h.br.2; simp only at e; omega) _, h2, fun i p hp => ?_⟩
  obtain ⟨g1, g2, g3⟩ := h3 i p hp
  exact ⟨g1, at_kept g2 fun b off e hb => ⟨hk b (by have := (g3 b off e).1; have := h.br.2; omega), by simpa using hb⟩, g3⟩
theorem LpV.congr (h : LpV w b1 wr BL BR m lf rn lv ln ov t rows ob) {lf' rn' : Nat → Int} (e1 : ∀ i, i < m → lf' i = lf i) (e2 : ∀ i, i < m → rn' i = rn i) : LpV w b1 wr BL BR m lf' rn' lv ln ov t rows ob :=
  ⟨h.b, h.l.congr e1, h.r.congr e2, h.bl, h.br, h.ne, h.hb, h.line, h.out⟩
/-- The line has grown. -/
theorem LpV.growL (h : LpV w b1 wr BL BR m lf rn lv ln ov t rows ob) (hg : wr.grownBy w' lv.ownBlock) (ho : w'.ownsRow b1 3 1 lv' ln'.length (shI.flat (castL ln'))) (hn : ∀ g, lv'.ownBlock = some g → lv.ownBlock = some g ∨ g = wr.heap.size) : LpV w b1 w' BL BR m lf rn lv' ln' ov t rows ob := by
  have hb : Below w.heap.size w w' := h.b.grown hg h.b.size (fun g e => by have := (own_lt h.line e).1; have := h.bl; omega)
  refine ⟨hb, h.l.same (hg.block BL h.l.lt fun e => by have := (own_lt h.line e.symm).1; have := h.bl.2; omega), h.r.same (hg.block BR h.r.lt fun e => by have := (own_lt h.line e.symm).1; have := h.br.2; omega), h.bl, h.br, h.ne, ⟨h.hb.1, Nat.le_trans h.hb.2 hg.size⟩, ho, ?_⟩
  obtain ⟨vs, h1, h2, h3⟩ := h.out
  refine ⟨vs, own_heap h1 fun g o hgo hoo => (hg.block g (heap_lt hoo) fun e => h.line_ov e.symm hgo).trans hoo, h2, fun i p hp => ?_⟩
  obtain ⟨g1, g2, g3⟩ := h3 i p hp
  refine ⟨g1, at_kept g2 fun b off e hb => ⟨hg.block b hb fun q => (g3 b off e).2.2.1 q.symm, Nat.lt_of_lt_of_le hb hg.size⟩, fun b off e => ?_⟩
  obtain ⟨q1, q2, q3, q4⟩ := g3 b off e
  refine ⟨q1, q2, fun q => ?_, q4⟩
  rcases hn b q with q | q
  · exact q3 q
  · have := h.hb.2; omega
/-- The line is another one, just made. -/
theorem LpV.newL (h : LpV w b1 wr BL BR m lf rn lv ln ov t rows ob) (hb : Below wr.heap.size wr w') (ho : w'.ownsRow wr.heap.size 3 1 lv' ln'.length (shI.flat (castL ln'))) : LpV w b1 w' BL BR m lf rn lv' ln' ov t rows ob := by
  have hs := h.step hb
  refine ⟨hs.b, hs.l, hs.r, hs.bl, hs.br, hs.ne, hs.hb, own_base ho (Nat.le_trans h.hb.1 h.hb.2), ?_⟩
  obtain ⟨vs, h1, h2, h3⟩ := hs.out
  refine ⟨vs, h1, h2, fun i p hp => ?_⟩
  obtain ⟨g1, g2, g3⟩ := h3 i p hp
  refine ⟨g1, g2, fun b off e => ?_⟩
  obtain ⟨q1, q2, _, q4⟩ := g3 b off e
  exact ⟨q1, q2, fun q => by have := (own_lt ho q).1; have := h.hb.2; omega, q4⟩
/-- One row more. -/
theorem LpV.more (h : LpV w b1 wr BL BR m lf rn lv ln ov t rows ob) {ov' : Value} {a : Option Addr} {c n : Nat} (hg : wr.grownBy w' ov.ownBlock)
    {vs : List SlT} (h1 : wr.ownsRow b1 29 1 ov t (shS.flat vs)) (h2 : vs.length = t) (h3 : ∀ i p, vs[i]? = some p → p.2.1 = (rows i).length ∧ shI.At wr p.1 p.2.2 (rows i) ∧ ∀ b off, p.1 = some ⟨b, off, none⟩ → b1 ≤ b ∧ b < ob ∧ lv.ownBlock ≠ some b ∧ ov.ownBlock ≠ some b)
    (hv : w'.ownsRow b1 29 1 ov' (t + 1) (shS.flat (vs ++ [(a, n, c)]))) (hno : ∀ g, ov'.ownBlock = some g → ov.ownBlock = some g ∨ g = wr.heap.size)
    (hn : (rows t).length = n) (hr : shI.At wr a c (rows t)) (hra : ∀ b off, a = some ⟨b, off, none⟩ → b1 ≤ b ∧ b < wr.heap.size ∧ lv.ownBlock ≠ some b ∧ ov.ownBlock ≠ some b) : LpV w b1 w' BL BR m lf rn lv ln ov' (t + 1) rows w'.heap.size := by
  have hb : Below w.heap.size w w' := h.b.grown hg h.b.size (fun g e => by have := (own_lt h1 e).1; have := h.bl; omega)
  have hob := h.hb.2
  refine ⟨hb, h.l.same (hg.block BL h.l.lt fun e => by have := (own_lt h1 e.symm).1; have := h.bl.2; omega), h.r.same (hg.block BR h.r.lt fun e => by have := (own_lt h1 e.symm).1; have := h.br.2; omega), h.bl, h.br, h.ne, ⟨Nat.le_trans h.hb.1 (Nat.le_trans hob hg.size), Nat.le_refl _⟩, own_heap h.line fun g o hgo hoo => (hg.block g (heap_lt hoo) fun e => h.line_ov hgo e.symm).trans hoo, vs ++ [(a, n, c)], hv, by rw [List.length_append, h2]; rfl, fun i p hp => ?_⟩
  have hsz := hg.size
  have hov : ∀ b, b < wr.heap.size → ov.ownBlock ≠ some b → ov'.ownBlock ≠ some b := fun b hb h0 q => by
    rcases hno b q with q | q
    · exact h0 q
    · omega
  by_cases hi : i < t
  · rw [List.getElem?_append_left (by omega)] at hp
    obtain ⟨g1, g2, g3⟩ := h3 i p hp
    refine ⟨g1, at_kept g2 fun b off e hb => ⟨hg.block b hb fun q => (g3 b off e).2.2.2 q.symm, Nat.lt_of_lt_of_le hb hg.size⟩, fun b off e => ?_⟩
    obtain ⟨q1, q2, q3, q4⟩ := g3 b off e
    exact ⟨q1, by omega, q3, hov b (by omega) q4⟩
  · have hit : i = t := by
      have := (List.getElem?_eq_some_iff.1 hp).1
      rw [List.length_append, h2] at this
      simp at this
      omega
    subst hit
    rw [List.getElem?_append_right (by omega), h2, Nat.sub_self] at hp
    simp at hp
    subst hp
    refine ⟨hn.symm, at_kept hr fun b off e hb => ⟨hg.block b hb fun q => (hra b off e).2.2.2 q.symm, Nat.lt_of_lt_of_le hb hg.size⟩, fun b off e => ?_⟩
    obtain ⟨q1, q2, q3, q4⟩ := hra b off e
    exact ⟨q1, by omega, q3, hov b q2 q4⟩
/-- It reads as rows. -/
theorem LpV.runs (h : LpV w b1 wr BL BR m lf rn lv ln ov t rows ob) : ∃ ad cap, ov = .slice ad t cap ∧ RunsAt wr ad cap t rows := by
  obtain ⟨vs, h1, h2, h3⟩ := h.out
  obtain ⟨ad, cap, rfl, _, _, hnone, _⟩ := own_shape h1
  have hA := Shape.At.own (S := shS) h1 h2
  refine ⟨ad, cap, rfl, fun e => ⟨(hnone e).2, (hnone e).1⟩, fun i hi => ?_⟩
  obtain ⟨p, hp⟩ : ∃ p, vs[i]? = some p := ⟨vs[i]'(by omega), List.getElem?_eq_getElem _⟩
  obtain ⟨b, off, e, hb, hc⟩ := at_sl hA hp
  obtain ⟨g1, g2, _⟩ := h3 i p hp
  exact ⟨b, off, p.1, p.2.2, e, hb, by rw [← g1]; exact hc, g2⟩
end
/-- The levels from the gravest down. -/
def topF (q : Nat → List Nat) : Nat → List Nat
  | 0 => []
  | n + 1 => topF q n ++ q (31 - n)
theorem top_down (q : Nat → List Nat) : ∀ n, n ≤ 32 → topF q n ++ downN q (32 - n) = downN q 32
  | 0, _ => rfl
  | n + 1, h => by
    have e : 32 - n = (32 - (n + 1)) + 1 := by omega
    have ih := top_down q n (by omega)
    rw [e, downN, show 32 - (n + 1) = 31 - n by omega] at ih
    rw [topF, List.append_assoc, show 32 - (n + 1) = 31 - n by omega]
    exact ih
theorem top_all (q : Nat → List Nat) : topF q 32 = downN q 32 := by
  have := top_down q 32 (Nat.le_refl _)
  simpa [downN] using this
theorem take_push {l : List Nat} {c k : Nat} : (l ++ [k]).take c = if (l.take c).length < c then l.take c ++ [k] else l.take c := by
  by_cases h : l.length < c
  · rw [if_pos (by rw [List.length_take]; omega), List.take_of_length_le (by rw [List.length_append]; simp; omega), List.take_of_length_le (by omega)]
  · rw [if_neg (by rw [List.length_take]; omega), List.take_append_of_le_length (by omega)]
/-- What is left, as the program has it: nothing of those who have not come. -/
def lfA (T : ThN) (t i k : Nat) : Int := if T.come k < t ∨ T.come k = t ∧ k < i then (((T.stN t).left k : Nat) : Int) else 0
theorem lfA_next {T : ThN} (hl : ∀ k, k < T.m → T.lev k < 32) {t i : Nat} (k : Nat) : lfA T t (i + 1) k = if T.come i = t then upF (lfA T t i) i (((T.work i : Nat) : Int)) k else lfA T t i k := by
  have hu : ∀ v, upF (lfA T t i) i v k = if k = i then v else lfA T t i k := fun _ => rfl
  rw [hu]
  unfold lfA
  have hi := inv_st hl t
  by_cases h : T.come i = t
  · rw [if_pos h]
    by_cases e : k = i
    · subst e
      have h1 := hi.sum k
      have h2 := hi.late k (by omega)
      rw [if_pos (Or.inr ⟨h, by omega⟩), if_pos rfl]
      congr 1
      omega
    · rw [if_neg e]
      by_cases h2 : T.come k < t ∨ T.come k = t ∧ k < i
      · rw [if_pos h2, if_pos (by omega)]
      · rw [if_neg h2, if_neg (by omega)]
  · rw [if_neg h]
    by_cases h2 : T.come k < t ∨ T.come k = t ∧ k < i
    · rw [if_pos h2, if_pos (by omega)]
    · rw [if_neg h2, if_neg (by
        rintro (q | ⟨q1, q2⟩)
        · exact h2 (Or.inl q)
        · by_cases e : k = i
          · subst e; exact h q1
          · exact h2 (Or.inr ⟨q1, by omega⟩))]
/-- .. when j of those who run have run. -/
def lfB (T : ThN) (t j k : Nat) : Int := if T.come k ≤ t then ((decN (T.atN t) ((T.runN t).take j) k : Nat) : Int) else 0
def rnB (T : ThN) (t j k : Nat) : Int := ((incN (T.atN t) ((T.runN t).take j) k : Nat) : Int)
theorem lfB_zero (T : ThN) (t k : Nat) (hk : k < T.m) : lfB T t 0 k = lfA T t T.m k := by
  unfold lfB lfA decN
  by_cases h : T.come k ≤ t
  · rw [if_pos h, List.take_zero, if_neg (by simp), if_pos (by omega)]; rfl
  · rw [if_neg h, if_neg (by omega)]
theorem run_next {T : ThN} (hl : ∀ k, k < T.m → T.lev k < 32) {t j k : Nat} (hk : (T.runN t)[j]? = some k) : ¬ k ∈ (T.runN t).take j ∧ T.come k ≤ t ∧ 0 < (T.stN t).left k ∧ k < T.m ∧ (∀ x, lfB T t (j + 1) x = upF (lfB T t j) k (lfB T t j k - 1) x) ∧ (∀ x, rnB T t (j + 1) x = upF (rnB T t j) k (rnB T t j k + 1) x) ∧ lfB T t j k = (((T.stN t).left k : Nat) : Int) ∧ rnB T t j k = (((T.stN t).ran k : Nat) : Int) := by
  have e : (T.runN t).take (j + 1) = (T.runN t).take j ++ [k] := by rw [List.take_add_one, hk]; rfl
  obtain ⟨r1, r2, r3⟩ := run_ready hl t k (List.mem_of_getElem? hk)
  have hni : ¬ k ∈ (T.runN t).take j := fun h => by
    obtain ⟨i, hi, hik⟩ := List.mem_take_iff_getElem.1 h
    have hlt := (List.getElem?_eq_some_iff.1 hk).1
    have hjk := (List.getElem?_eq_some_iff.1 hk).2
    exact List.pairwise_iff_getElem.1 (run_nod hl t) i j (by omega) hlt (by omega) (by rw [hik, hjk])
  have a1 : lfB T t j k = (((T.stN t).left k : Nat) : Int) := by unfold lfB decN; rw [if_pos r2, if_neg hni]; rfl
  have a2 : rnB T t j k = (((T.stN t).ran k : Nat) : Int) := by unfold rnB incN; rw [if_neg hni]; rfl
  refine ⟨hni, r2, r3, r1, fun x => ?_, fun x => ?_, a1, a2⟩
  · rw [a1, show ∀ v, upF (lfB T t j) k v x = if x = k then v else lfB T t j x from fun _ => rfl]
    unfold lfB decN
    rw [e]
    by_cases h : x = k
    · subst h
      rw [if_pos rfl, if_pos r2, if_pos (by simp)]
      have : (T.atN t).left x = (T.stN t).left x := rfl
      omega
    · rw [if_neg h]
      by_cases hc : T.come x ≤ t
      · rw [if_pos hc, if_pos hc]
        by_cases h2 : x ∈ (T.runN t).take j
        · rw [if_pos (by simp [h2]), if_pos h2]
        · rw [if_neg (by simp [h2, h]), if_neg h2]
      · rw [if_neg hc, if_neg hc]
  · rw [a2, show ∀ v, upF (rnB T t j) k v x = if x = k then v else rnB T t j x from fun _ => rfl]
    unfold rnB incN
    rw [e]
    by_cases h : x = k
    · subst h
      rw [if_pos rfl, if_pos (by simp)]
      have : (T.atN t).ran x = (T.stN t).ran x := rfl
      omega
    · rw [if_neg h]
      by_cases h2 : x ∈ (T.runN t).take j
      · rw [if_pos (by simp [h2]), if_pos h2]
      · rw [if_neg (by simp [h2, h]), if_neg h2]
theorem lfB_end (T : ThN) (t k : Nat) : lfB T t (T.runN t).length k = lfA T (t + 1) 0 k := by
  unfold lfB lfA
  rw [List.take_length]
  by_cases h : T.come k ≤ t
  · rw [if_pos h, if_pos (by omega)]; rfl
  · rw [if_neg h, if_neg (by omega)]
theorem rnB_end (T : ThN) (t k : Nat) : rnB T t (T.runN t).length k = (((T.stN (t + 1)).ran k : Nat) : Int) := by
  unfold rnB
  rw [List.take_length]
  rfl
theorem rnB_zero (T : ThN) (t k : Nat) : rnB T t 0 k = (((T.stN t).ran k : Nat) : Int) := by
  unfold rnB incN
  rw [List.take_zero, if_neg (by simp)]
  rfl
end Go.Proofs.Ytningajaimbncaa
