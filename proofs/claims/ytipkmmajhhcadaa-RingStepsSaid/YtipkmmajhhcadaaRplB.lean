/- corebellref.RPlay: the walk. -/
import Derived.Test.YtipkmmajhhcadaaRplA
import Derived.Deep.CutBlock
namespace Go.Proofs.Ytipkmmajhhcadaa
open Go.RowKit

set_option maxHeartbeats 8000000 in
set_option maxRecDepth 100000 in
theorem rplay_bad {ad : Option Addr} {cap m : Nat} (x : Int) (w : World) (hx : ¬ (2 ≤ x ∧ x ≤ 64)) : Calls Try.prog 12 #[.int .i64 x, .slice ad m cap] w fun e w' => e = .returned (.tuple #[.slice none 0 0, .slice none 0 0, .agg #[.slice none 0 0, .int .i64 0, .int .i64 0, .int .i64 0], .int .i64 2]) ∧ Below w.heap.size w w' := by
  have B0 := Lib.hid (below_alloc w (.cells #[.slice none 0 0, .int .i64 0, .int .i64 0, .int .i64 0] 24))
  have Z0 := Lib.hid (heap_alloc_new w (.cells #[.slice none 0 0, .int .i64 0, .int .i64 0, .int .i64 0] 24))
  by_cases h1 : x < 2
  · have h1' : decide (x < 2) = true := decide_eq_true h1
    clear hx
    go_enter Try.func12, Try.ntmps12
    go_upto_region 1 with fail
    generalize w.alloc (.cells #[.slice none 0 0, .int .i64 0, .int .i64 0, .int .i64 0] 24) = X at B0 Z0 ⊢
    have G0 := four_at Z0.out
    have F0 := fun i => frozen_of_row X w.heap.size i _ _ Z0.out
    have l0 := heap_lt Z0.out
    go_wp2_with fail
    refine bodyPost_ret (results_tmp2_row_tmp1 rfl _ _ w.heap.size 24 #[.slice none 0 0, .int .i64 0, .int .i64 0, .int .i64 0] (0, 0) _ rfl (four_set Z0.out) Try.underlying24 rfl size_ring) rfl ?_
    exact ⟨rfl, four_below _ _ _ _ B0.out (Nat.le_refl _)⟩
  · have h1' : decide (x < 2) = false := decide_eq_false h1
    have h2' : decide (x > 64) = true := decide_eq_true (by omega)
    clear hx
    go_enter Try.func12, Try.ntmps12
    go_upto_region 1 with fail
    generalize w.alloc (.cells #[.slice none 0 0, .int .i64 0, .int .i64 0, .int .i64 0] 24) = X at B0 Z0 ⊢
    have G0 := four_at Z0.out
    have F0 := fun i => frozen_of_row X w.heap.size i _ _ Z0.out
    have l0 := heap_lt Z0.out
    go_wp2_with fail
    refine bodyPost_ret (results_tmp2_row_tmp1 rfl _ _ w.heap.size 24 #[.slice none 0 0, .int .i64 0, .int .i64 0, .int .i64 0] (0, 0) _ rfl (four_set Z0.out) Try.underlying24 rfl size_ring) rfl ?_
    exact ⟨rfl, four_below _ _ _ _ B0.out (Nat.le_refl _)⟩
theorem que_zero {w : World} {base B n : Nat} (h : w.ownsRow base tC 2 (.slice (some ⟨B, 0, none⟩) n n) n (madeCells (Value.agg #[.bool false, .int .i64 0]).cells (n * 2)).toList) : Que shCe w base tC (.slice (some ⟨B, 0, none⟩) n n) n (List.replicate n (false, 0)) := by
  rw [show (Value.agg #[.bool false, .int .i64 0]).cells = #[.bool false, .int .i64 0] from rfl, made_two, ← flat_zero] at h
  exact que_own (S := shCe) h List.length_replicate
theorem LpP.setC {w wr : World} {ev gv kv tv : Value} {ne G K T : Nat} {es gs ks ts : List Int} (h : LpP w wr ev ne es gv G gs kv K ks tv T ts) {C : Nat} {cur : Array Value} (hC : wr.heap[C]? = some (.cells cur tR (0, 0))) (hw : w.heap.size ≤ C) (hz : ¬ C = w.heap.size) (x y z u : Value) : LpP w ((((wr.setCell ⟨C, 0, none⟩ x).setCell ⟨C, 1, none⟩ y).setCell ⟨C, 2, none⟩ z).setCell ⟨C, 3, none⟩ u) ev ne es gv G gs kv K ks tv T ts := by
  have f : ∀ {N base : Nat} {T' : TypeId} {v : Value} {l : List Int}, Que shI wr base T' v N l → ¬ tR = T' → Que shI ((((wr.setCell ⟨C, 0, none⟩ x).setCell ⟨C, 1, none⟩ y).setCell ⟨C, 2, none⟩ z).setCell ⟨C, 3, none⟩ u) base T' v N l := fun q hT =>
    have n1 := que_ne q hC hT
    que_set (a := ⟨C, 3, none⟩) (que_set (a := ⟨C, 2, none⟩) (que_set (a := ⟨C, 1, none⟩) (que_set (a := ⟨C, 0, none⟩) q n1 _) n1 _) n1 _) n1 _
  exact ⟨four_below _ _ _ _ h.b hw, (four_other wr x y z u (fun e => hz e.symm)).trans h.z, f h.e (by decide), f h.g (by decide), f h.k (by decide), f h.t (by decide), h.gk, h.gt, h.kt⟩
theorem lay_start {w wr : World} {ev gv kv tv : Value} {ne G K T C B n g t k : Nat} {es gs ks ts : List Int} (h : LpP w wr ev ne es gv G gs kv K ks tv T ts) (hq : Que shCe wr w.heap.size tC (.slice (some ⟨B, 0, none⟩) n n) n (List.replicate n (false, 0))) (hC : wr.heap[C]? = some (.cells #[.slice none 0 0, .int .i64 0, .int .i64 0, .int .i64 0] tR (0, 0))) (hw : w.heap.size < C) : LpQ w ((((wr.setCell ⟨C, 0, none⟩ (.slice (some ⟨B, 0, none⟩) n n)).setCell ⟨C, 1, none⟩ (.int .i64 (g : Nat))).setCell ⟨C, 2, none⟩ (.int .i64 (t : Nat))).setCell ⟨C, 3, none⟩ (.int .i64 (k : Nat))) C B n (List.replicate n (false, 0)) g t k ev ne es gv G gs kv K ks tv T ts :=
  ⟨h.setC hC (by omega) (by omega) _ _ _ _, four_set hC, que_four hq (que_ne hq hC (by decide)) _ _ _ _⟩
theorem lay_fin {w wr : World} {ea ta : Option Addr} {ec tc : Nat} {gv kv : Value} {ne G K A C B n g t k m : Nat} {es gs ks : List Int} {cs : List CeR} {s : StG} (h : LpQ w wr C B n cs g t k (.slice ea ne ec) ne es gv G gs kv K ks (.slice ta A tc) A s.taken) (ht : RiR.Tells n ⟨cs, g, t, k⟩ s ∧ IdxG n ⟨cs, g, t, k⟩ s) (hne : ne = m) :
    RPlayOut w n m A es s.taken s (.returned (.tuple #[.slice ea ne ec, .slice ta A tc, .agg #[.slice (some ⟨B, 0, none⟩) n n, .int .i64 (g : Nat), .int .i64 (t : Nat), .int .i64 (k : Nat)], .int .i64 0])) ((((wr.setCell ⟨w.heap.size, 0, none⟩ (.slice (some ⟨B, 0, none⟩) n n)).setCell ⟨w.heap.size, 1, none⟩ (.int .i64 (g : Nat))).setCell ⟨w.heap.size, 2, none⟩ (.int .i64 (t : Nat))).setCell ⟨w.heap.size, 3, none⟩ (.int .i64 (k : Nat))).drew := by
  subst hne
  have D : ∀ X : World, Below X.heap.size X X.drew := fun X => (Below.refl _ _).drew
  have f : ∀ {N base : Nat} {T' : TypeId} {v : Value} {l : List Int} (x y z u : Value), Que shI wr base T' v N l → ¬ tR = T' → Que shI ((((wr.setCell ⟨w.heap.size, 0, none⟩ x).setCell ⟨w.heap.size, 1, none⟩ y).setCell ⟨w.heap.size, 2, none⟩ z).setCell ⟨w.heap.size, 3, none⟩ u) base T' v N l := fun x y z u q hT =>
    have n1 := que_ne q h.p.z hT
    que_set (a := ⟨w.heap.size, 3, none⟩) (que_set (a := ⟨w.heap.size, 2, none⟩) (que_set (a := ⟨w.heap.size, 1, none⟩) (que_set (a := ⟨w.heap.size, 0, none⟩) q n1 _) n1 _) n1 _) n1 _
  exact ⟨_, _, _, _, _, _, cs, g, t, k, rfl, ht.1, ht.2, (que_at (f _ _ _ _ h.p.e (by decide))).step (D _), (que_at (f _ _ _ _ h.p.t (by decide))).step (D _), (que_at (que_four h.q (que_ne h.q h.p.z (by decide)) _ _ _ _)).step (D _), pstep (four_below _ _ _ _ h.p.b (Nat.le_refl _)) (D _)⟩
set_option maxHeartbeats 8000000 in
set_option maxRecDepth 100000 in
theorem rplay_ok {ad : Option Addr} {cap m : Nat} {ops : List RoT} (n p : Nat) (w : World) (h2 : 2 ≤ n) (h64 : n ≤ 64) (hp : p + 1 = n) (HA : Hid (shRo.At w ad cap ops)) (hm : Hid (ops.length = m)) (hmb : m ≤ 8796093021952) (s : StG) (hs : Hid (runG n newG ops = s)) (es : List Int) (hes : Hid (errsG n newG ops = es)) (A : Nat) (hA : Hid (s.taken.length = A)) (HRM : Hid (s.wk.length + s.gv.length < n)) (gG gT gW : Nat) (HGG : Hid (s.gives % n = gG)) (HGT : Hid (A % n = gT)) (HGW : Hid ((s.gives - s.gv.length) % n = gW)) (hgm : s.gives ≤ m) (hgl : s.gv.length ≤ s.gives) (HW : Hid (gW = wrR n (gT + s.wk.length))) (HIX : Hid (∀ cs, RgR n cs (wrR n (gT + s.wk.length + s.gv.length)) gT (wrR n (gT + s.wk.length)) s.wk s.gv → RiR.Tells n ⟨cs, gG, gT, gW⟩ s ∧ IdxG n ⟨cs, gG, gT, gW⟩ s)) :
    Calls Try.prog 12 #[.int .i64 (n : Nat), .slice ad m cap] w (RPlayOut w n m A es s.taken s) := by
  obtain ⟨i0, hi, hz0, hz1, hz2⟩ := info_parts info_errno
  obtain ⟨j0, hj, hy0, hy1, hy2⟩ := info_parts info_int
  have h1' : decide ((n : Int) < 2) = false := decide_eq_false (by omega)
  have h2' : decide ((n : Int) > 64) = false := decide_eq_false (by omega)
  have x2 : IntKind.i64.wrap ((n : Int) - 1) = (p : Int) := by rw [IntKind.wrap_i64]; omega
  have H0 : Hid (LpP w (w.alloc (.cells #[.slice none 0 0, .int .i64 0, .int .i64 0, .int .i64 0] 24)) (.slice none 0 0) 0 [] (.slice none 0 0) 0 [] (.slice none 0 0) 0 [] (.slice none 0 0) 0 []) := Lib.hid ⟨below_alloc w _, heap_alloc_new w _, que_nil _ _ _ _, que_nil _ _ _ _, que_nil _ _ _ _, que_nil _ _ _ _, (fun x h => by cases h), (fun x h => by cases h), (fun x h => by cases h)⟩
  go_enter Try.func12, Try.ntmps12
  go_upto_region 7 with fail
  generalize w.alloc (.cells #[.slice none 0 0, .int .i64 0, .int .i64 0, .int .i64 0] 24) = X at H0 ⊢
  go_loopw [8, 9, 10, 11, 12, 30] (fun ev gv kv tv gc v wr => ∃ (i ne G K T : Nat) (ea : Option Addr) (ec : Nat) (ga : Option Addr) (gc' : Nat) (ka : Option Addr) (kc : Nat) (ta : Option Addr) (tc : Nat), i ≤ m ∧ v = .int .i64 i ∧ ev = .slice ea ne ec ∧ gv = .slice ga G gc' ∧ kv = .slice ka K kc ∧ tv = .slice ta T tc ∧ gc = .int .i64 ((runG n newG (ops.take i)).gives : Nat) ∧ Hid (LpP w wr (.slice ea ne ec) ne (errsG n newG (ops.take i)) (.slice ga G gc') G (runG n newG (ops.take i)).gv (.slice ka K kc) K (runG n newG (ops.take i)).wk (.slice ta T tc) T (runG n newG (ops.take i)).taken)) (fun _ _ _ _ _ v _ => m - (intOf v).toNat)
  case atStart => exact ⟨0, 0, 0, 0, 0, none, 0, none, 0, none, 0, none, 0, Nat.zero_le _, rfl, rfl, rfl, rfl, rfl, rfl, H0⟩
  case round =>
    clear H0
    obtain ⟨i, ne, G, K, T, ea, ec, ga, gc, ka, kc, ta, tc, hi', rfl, rfl, rfl, rfl, rfl, rfl, HL⟩ := hrel
    by_cases hlt : i < m
    · obtain ⟨⟨kd, d⟩, ho⟩ : ∃ o, ops[i]? = some o := ⟨ops[i]'(by rw [hm.out]; exact hlt), List.getElem?_eq_getElem _⟩
      have HNE := Lib.hid (errsG_next (n := n) ho newG)
      have HNR := Lib.hid (runG_next (n := n) ho newG)
      have hne : i = ne := by rw [← que_len HL.out.e, errsG_len, List.length_take, hm.out]; omega
      have hnle : ne ≤ i := by omega
      clear hne
      have hroom := run_room h2 (ops.take i)
      have htk := taken_new n (ops.take i)
      have hgv := gives_le n (ops.take i) newG
      rw [que_len HL.out.t, List.length_take] at htk
      rw [List.length_take] at hgv
      rw [que_len HL.out.g, que_len HL.out.k] at hroom
      have hgz : newG.gives = 0 := rfl
      rw [hgz] at hgv
      obtain ⟨st, hst⟩ : ∃ st, runG n newG (ops.take i) = st := ⟨_, rfl⟩
      obtain ⟨es', hes'⟩ : ∃ es', errsG n newG (ops.take i) = es' := ⟨_, rfl⟩
      rw [hst] at HL HNE HNR hgv
      rw [hes'] at HL HNE
      simp only [hst]
      obtain ⟨b, off, rfl, hb, e0, e1⟩ := at_ro HA.out ho
      have g0 := (HL.out.b.cell (p := ⟨b, off + i * 2, none⟩) hb).trans e0
      have g1 := (HL.out.b.cell (p := ⟨b, off + i * 2 + 1, none⟩) hb).trans e1
      simp only at g0 g1
      have hbr : b < wr.heap.size := Nat.lt_of_lt_of_le hb HL.out.b.size
      obtain ⟨x, hx⟩ : ∃ x, errG n st ⟨kd, d⟩ = x := ⟨_, rfl⟩
      obtain ⟨s2, hs2⟩ : ∃ s2, stepG n st ⟨kd, d⟩ = s2 := ⟨_, rfl⟩
      rw [hx] at HNE
      rw [hs2] at HNR
      have HKL := Lib.hid (que_len HL.out.k)
      have HGL := Lib.hid (que_len HL.out.g)
      obtain ⟨Q, hQ⟩ : ∃ Q, G + K = Q := ⟨_, rfl⟩
      have xQ : IntKind.i64.wrap ((G : Int) + (K : Int)) = (Q : Int) := by rw [IntKind.wrap_i64]; omega
      have LC := Lib.hid (HL.out.step (below_alloc wr (.cells #[.int .i64 kd, .int .i64 d] 26)))
      have OC := Lib.hid (heap_alloc_new wr (.cells #[.int .i64 kd, .int .i64 d] 26))
      clear e0 e1 ho hst hes' HL hgz
      go_upto_block 2 with fail
      generalize wr.alloc (.cells #[.int .i64 kd, .int .i64 d] 26) = wc at LC OC ⊢
      generalize wr.heap.size = O at OC ⊢
      obtain ⟨t0, t1⟩ := pair_at OC.out
      have lO := heap_lt OC.out
      go_cut [9, 10, 11, 12, 15] from 34 to 104 (fun gv kv tv gc ev wy => ∃ (G' K' T' : Nat) (ga' : Option Addr) (gc' : Nat) (ka' : Option Addr) (kc' : Nat) (ta' : Option Addr) (tc' : Nat), gv = .slice ga' G' gc' ∧ kv = .slice ka' K' kc' ∧ tv = .slice ta' T' tc' ∧ gc = .int .i64 (s2.gives : Nat) ∧ ev = .int .i64 x ∧ Hid (LpP w wy (.slice ea ne ec) ne es' (.slice ga' G' gc') G' s2.gv (.slice ka' K' kc') K' s2.wk (.slice ta' T' tc') T' s2.taken))
      case first =>
        clear HNE HNR
        by_cases k1 : kd = 1
        · subst k1
          by_cases hf : Q = p
          · have hff : ((Q : Int) == (p : Int)) = true := nat_eq true (decide_eq_true hf)
            have hx2 : errG n st ⟨1, d⟩ = 7 := by rw [errG_1, if_pos (by have h1 := HKL.out; have h2 := HGL.out; omega)]
            have hs2' : stepG n st ⟨1, d⟩ = st := by unfold stepG; rw [if_neg (by rw [hx2]; decide)]
            rw [hx2] at hx
            rw [hs2'] at hs2
            subst hx hs2
            clear hx2 hs2'
            go_wp2_with fail
            go_meet
            exact ⟨G, K, T, ga, gc, ka, kc, ta, tc, rfl, rfl, rfl, rfl, rfl, LC⟩
          · have hff : ((Q : Int) == (p : Int)) = false := nat_eq false (decide_eq_false hf)
            obtain ⟨g2, hg2⟩ : ∃ g2, st.gives + 1 = g2 := ⟨_, rfl⟩
            have hwg : IntKind.i64.wrap ((st.gives : Int) + 1) = (g2 : Int) := by rw [IntKind.wrap_i64]; omega
            have HG2 := Lib.hid hg2
            have hx2 : errG n st ⟨1, d⟩ = 0 := by rw [errG_1, if_neg (by have h1 := HKL.out; have h2 := HGL.out; omega)]
            have hs2' : stepG n st ⟨1, d⟩ = ⟨st.wk, st.gv ++ [d], st.taken, st.gives + 1⟩ := by unfold stepG; rw [if_pos hx2]; rfl
            rw [hx2] at hx
            rw [hs2'] at hs2
            subst hx hs2
            clear hx2 hs2'
            have XA := Lib.hid (LC.out.step (below_alloc wc (.cells #[.int .i64 d] 3)))
            have NA := Lib.hid (int_lit wc d 1)
            have hbs := XA.out.b.size
            clear hg2
            go_wp2_with (first
              | (at_builtin; refine wpList_append_que shI rfl _ _ 35 rfl w.heap.size 3 j0 _ 8 Try.underlying35 hj hy0 hy1 hy2 rfl (.slice ga G gc) G st.gv [d] rfl XA.out.g (some ⟨wc.heap.size, 0, none⟩) 1 1 rfl (Lib.hid rfl) NA.out (by unfold maxLen; omega) (by omega) hbs ?_; intro ra4 rc4 w4 own4 grow4 new4; have L4 := Lib.hid (XA.out.growG grow4 own4 (fun g hg => (new4 g hg).imp id (fun e => by rw [e]; exact Nat.le_refl _))); clear own4 grow4 new4)
              | fail)
            go_meet
            exact ⟨G + 1, K, T, ra4, rc4, ka, kc, ta, tc, rfl, rfl, rfl, by rw [HG2.out], rfl, L4⟩
        by_cases k2 : kd = 2
        · subst k2
          by_cases hG : G = 0
          · have hgn : st.gv = [] := List.eq_nil_of_length_eq_zero (by rw [HGL.out]; exact hG)
            subst hG
            have hx2 : errG n st ⟨2, d⟩ = 3 := by rw [errG_2, if_pos hgn]
            have hs2' : stepG n st ⟨2, d⟩ = st := by unfold stepG; rw [if_neg (by rw [hx2]; decide)]
            rw [hx2] at hx
            rw [hs2'] at hs2
            subst hx hs2
            clear hx2 hs2'
            go_wp2_with fail
            go_meet
            exact ⟨0, K, T, ga, gc, ka, kc, ta, tc, rfl, rfl, rfl, rfl, rfl, LC⟩
          · obtain ⟨j, rfl⟩ : ∃ j, G = j + 1 := ⟨G - 1, by omega⟩
            have hG1 : (((j + 1 : Nat) : Int) == 0) = false := by simp; omega
            obtain ⟨c, r, hcr⟩ : ∃ c r, st.gv = c :: r := by
              cases h : st.gv with
              | nil => have := HGL.out; rw [h] at this; cases this
              | cons c r => exact ⟨c, r, rfl⟩
            obtain ⟨y, hy⟩ : ∃ y, invR c = y := ⟨_, rfl⟩
            have hyw : IntKind.i64.wrap (-1 - c) = y := hy
            have hx2 : errG n st ⟨2, d⟩ = 0 := by rw [errG_2, if_neg (by rw [hcr]; exact List.cons_ne_nil _ _)]
            have hs2' : stepG n st ⟨2, d⟩ = ⟨st.wk ++ [y], r, st.taken, st.gives⟩ := by
              unfold stepG
              rw [if_pos hx2]
              unfold doG
              rw [if_neg (show ¬ (2 : Int) = 1 by decide), if_pos rfl, hcr]
              rw [← hy]; rfl
            rw [hx2] at hx
            rw [hs2'] at hs2
            subst hx hs2
            clear hx2 hs2'
            have LF := LC.out
            rw [hcr] at LF
            obtain ⟨bb, lo, rfl, hbl, cl⟩ := at_int (que_at LF.g) (k := 0) (x := c) rfl
            rw [Nat.add_zero] at cl
            have HLF := Lib.hid LF
            have XA := Lib.hid (LF.step (below_alloc wc (.cells #[.int .i64 y] 3)).drew)
            have NA : Hid (shI.At (wc.alloc (.cells #[.int .i64 y] 3)).drew (some ⟨wc.heap.size, 0, none⟩) 1 [y]) := Lib.hid (int_lit wc y 1)
            have hbs := XA.out.b.size
            have hm0 : (0 : Int) < ((j + 1 : Nat) : Int) := by omega
            have hmd : decide (0 < j + 1) = true := decide_eq_true (by omega)
            have hc4 : (1 : Int) ≤ (j : Int) + 1 := by omega
            have hc3 : 1 ≤ j + 1 := by omega
            clear LF hcr hy
            by_cases hc1 : gc = 1
            · subst hc1
              obtain rfl : j = 0 := by
                obtain ⟨_, _, hv, hnc, _⟩ := que_shape HLF.out.g
                simp only [Value.slice.injEq, true_and] at hv
                obtain ⟨_, rfl⟩ := hv
                omega
              have HW0 : Hid (r = []) := Lib.hid (List.eq_nil_of_length_eq_zero (by have h1 := que_len HLF.out.g; simpa using h1))
              go_wp2_with fail
              go_region_law (first
                | (refine step_append_que shI rfl _ _ 35 rfl w.heap.size 3 j0 _ 8 Try.underlying35 hj hy0 hy1 hy2 rfl (.slice ka K kc) K st.wk [y] rfl XA.out.k (some ⟨wc.heap.size, 0, none⟩) 1 1 rfl (Lib.hid rfl) NA.out (by unfold maxLen; omega) (by omega) hbs ?_; intro ra4 rc4 w4 own4 grow4 new4; have L4 := Lib.hid (XA.out.growK grow4 own4 (fun g hg => (new4 g hg).imp id (fun e => by rw [e]; exact Nat.le_refl _))); clear own4 grow4 new4)
                | fail)
              all_goals go_wp2_with fail
              all_goals go_meet
              all_goals rw [HW0.out]
              all_goals exact ⟨0, K + 1, T, (some ⟨bb, lo, none⟩), 0, ra4, rc4, ta, tc, rfl, rfl, rfl, rfl, rfl, Lib.hid (L4.out.cutG (by have h := que_end (n' := 1) L4.out.g; exact h) (fun _ h => h))⟩
            · have hc2 : decide (1 = gc) = false := decide_eq_false (fun e => hc1 e.symm)
              have hscj : j + 1 ≤ gc := by
                obtain ⟨_, _, hv, hnc, _⟩ := que_shape HLF.out.g
                simp only [Value.slice.injEq, true_and] at hv
                obtain ⟨_, rfl⟩ := hv
                exact hnc
              go_wp2_with fail
              go_region_law (first
                | (refine step_append_que shI rfl _ _ 35 rfl w.heap.size 3 j0 _ 8 Try.underlying35 hj hy0 hy1 hy2 rfl (.slice ka K kc) K st.wk [y] rfl XA.out.k (some ⟨wc.heap.size, 0, none⟩) 1 1 rfl (Lib.hid rfl) NA.out (by unfold maxLen; omega) (by omega) hbs ?_; intro ra4 rc4 w4 own4 grow4 new4; have L4 := Lib.hid (XA.out.growK grow4 own4 (fun g hg => (new4 g hg).imp id (fun e => by rw [e]; exact Nat.le_refl _))); clear own4 grow4 new4)
                | fail)
              all_goals go_wp2_with fail
              all_goals go_meet
              all_goals exact ⟨j, K + 1, T, (some ⟨bb, lo + 1, none⟩), (gc - 1), ra4, rc4, ta, tc, rfl, rfl, rfl, rfl, rfl, Lib.hid (L4.out.cutG (by have h := que_drop L4.out.g 1 hc3; exact h) (fun _ h => h))⟩
        by_cases k3 : kd = 3
        · subst k3
          by_cases hK : K = 0
          · have hkn : st.wk = [] := List.eq_nil_of_length_eq_zero (by rw [HKL.out]; exact hK)
            subst hK
            have hx2 : errG n st ⟨3, d⟩ = 3 := by rw [errG_3, if_pos hkn]
            have hs2' : stepG n st ⟨3, d⟩ = st := by unfold stepG; rw [if_neg (by rw [hx2]; decide)]
            rw [hx2] at hx
            rw [hs2'] at hs2
            subst hx hs2
            clear hx2 hs2'
            go_wp2_with fail
            go_meet
            exact ⟨G, 0, T, ga, gc, ka, kc, ta, tc, rfl, rfl, rfl, rfl, rfl, LC⟩
          · obtain ⟨j, rfl⟩ : ∃ j, K = j + 1 := ⟨K - 1, by omega⟩
            have hK1 : (((j + 1 : Nat) : Int) == 0) = false := by simp; omega
            obtain ⟨c, r, hcr⟩ : ∃ c r, st.wk = c :: r := by
              cases h : st.wk with
              | nil => have := HKL.out; rw [h] at this; cases this
              | cons c r => exact ⟨c, r, rfl⟩
            have hx2 : errG n st ⟨3, d⟩ = 0 := by rw [errG_3, if_neg (by rw [hcr]; exact List.cons_ne_nil _ _)]
            have hs2' : stepG n st ⟨3, d⟩ = ⟨r, st.gv, st.taken ++ [c], st.gives⟩ := by
              unfold stepG
              rw [if_pos hx2]
              unfold doG
              rw [if_neg (show ¬ (3 : Int) = 1 by decide), if_neg (show ¬ (3 : Int) = 2 by decide), hcr]
              rfl
            rw [hx2] at hx
            rw [hs2'] at hs2
            subst hx hs2
            clear hx2 hs2'
            have LF := LC.out
            rw [hcr] at LF
            obtain ⟨bb, lo, rfl, hbl, cl⟩ := at_int (que_at LF.k) (k := 0) (x := c) rfl
            rw [Nat.add_zero] at cl
            have HLF := Lib.hid LF
            have XA := Lib.hid (LF.step (below_alloc wc (.cells #[.int .i64 c] 3)).drew)
            have NA : Hid (shI.At (wc.alloc (.cells #[.int .i64 c] 3)).drew (some ⟨wc.heap.size, 0, none⟩) 1 [c]) := Lib.hid (int_lit wc c 1)
            have hbs := XA.out.b.size
            have hm0 : (0 : Int) < ((j + 1 : Nat) : Int) := by omega
            have hmd : decide (0 < j + 1) = true := decide_eq_true (by omega)
            have hc4 : (1 : Int) ≤ (j : Int) + 1 := by omega
            have hc3 : 1 ≤ j + 1 := by omega
            clear LF hcr
            by_cases hc1 : kc = 1
            · subst hc1
              obtain rfl : j = 0 := by
                obtain ⟨_, _, hv, hnc, _⟩ := que_shape HLF.out.k
                simp only [Value.slice.injEq, true_and] at hv
                obtain ⟨_, rfl⟩ := hv
                omega
              have HW0 : Hid (r = []) := Lib.hid (List.eq_nil_of_length_eq_zero (by have h1 := que_len HLF.out.k; simpa using h1))
              go_wp2_with fail
              go_region_law (first
                | (refine step_append_que shI rfl _ _ 35 rfl w.heap.size 3 j0 _ 8 Try.underlying35 hj hy0 hy1 hy2 rfl (.slice ta T tc) T st.taken [c] rfl XA.out.t (some ⟨wc.heap.size, 0, none⟩) 1 1 rfl (Lib.hid rfl) NA.out (by unfold maxLen; omega) (by omega) hbs ?_; intro ra4 rc4 w4 own4 grow4 new4; have L4 := Lib.hid (XA.out.growT grow4 own4 (fun g hg => (new4 g hg).imp id (fun e => by rw [e]; exact Nat.le_refl _))); clear own4 grow4 new4)
                | fail)
              all_goals go_wp2_with fail
              all_goals go_meet
              all_goals rw [HW0.out]
              all_goals exact ⟨G, 0, T + 1, ga, gc, (some ⟨bb, lo, none⟩), 0, ra4, rc4, rfl, rfl, rfl, rfl, rfl, Lib.hid (L4.out.cutK (by have h := que_end (n' := 1) L4.out.k; exact h) (fun _ h => h))⟩
            · have hc2 : decide (1 = kc) = false := decide_eq_false (fun e => hc1 e.symm)
              have hscj : j + 1 ≤ kc := by
                obtain ⟨_, _, hv, hnc, _⟩ := que_shape HLF.out.k
                simp only [Value.slice.injEq, true_and] at hv
                obtain ⟨_, rfl⟩ := hv
                exact hnc
              go_wp2_with fail
              go_region_law (first
                | (refine step_append_que shI rfl _ _ 35 rfl w.heap.size 3 j0 _ 8 Try.underlying35 hj hy0 hy1 hy2 rfl (.slice ta T tc) T st.taken [c] rfl XA.out.t (some ⟨wc.heap.size, 0, none⟩) 1 1 rfl (Lib.hid rfl) NA.out (by unfold maxLen; omega) (by omega) hbs ?_; intro ra4 rc4 w4 own4 grow4 new4; have L4 := Lib.hid (XA.out.growT grow4 own4 (fun g hg => (new4 g hg).imp id (fun e => by rw [e]; exact Nat.le_refl _))); clear own4 grow4 new4)
                | fail)
              all_goals go_wp2_with fail
              all_goals go_meet
              all_goals exact ⟨G, j, T + 1, ga, gc, (some ⟨bb, lo + 1, none⟩), (kc - 1), ra4, rc4, rfl, rfl, rfl, rfl, rfl, Lib.hid (L4.out.cutK (by have h := que_drop L4.out.k 1 hc3; exact h) (fun _ h => h))⟩
        have b1 : (kd == 1) = false := by simpa using k1
        have b2 : (kd == 2) = false := by simpa using k2
        have b3 : (kd == 3) = false := by simpa using k3
        have hx2 : errG n st ⟨kd, d⟩ = 5 := by unfold errG; rw [if_pos (by simp only; omega)]
        have hs2' : stepG n st ⟨kd, d⟩ = st := by unfold stepG; rw [if_neg (by rw [hx2]; decide)]
        rw [hx2] at hx
        rw [hs2'] at hs2
        subst hx hs2
        clear hx2 hs2'
        go_wp2_with fail
        go_meet
        exact ⟨G, K, T, ga, gc, ka, kc, ta, tc, rfl, rfl, rfl, rfl, rfl, LC⟩
      case rest =>
        obtain ⟨G2, K2, T2, ga2, gc2, ka2, kc2, ta2, tc2, rfl, rfl, rfl, rfl, rfl, L2⟩ := hcut
        have XA := Lib.hid (L2.out.step (below_alloc wc (.cells #[.int .i64 x] 27)))
        have NA : Hid (shI.At (wc.alloc (.cells #[.int .i64 x] 27)) (some ⟨wc.heap.size, 0, none⟩) 1 [x]) := Lib.hid (Shape.At.lit (S := shI) [x] (heap_alloc_new wc _))
        have hbs := XA.out.b.size
        clear xQ hx hs2
        go_wp2_with (first
          | (at_builtin; refine wpList_append_que shI rfl _ _ 34 rfl w.heap.size 27 i0 _ 8 Try.underlying34 hi hz0 hz1 hz2 rfl (.slice ea ne ec) ne es' [x] rfl XA.out.e (some ⟨wc.heap.size, 0, none⟩) 1 1 rfl (Lib.hid rfl) NA.out (by unfold maxLen; omega) (by omega) hbs ?_; intro ra4 rc4 w4 own4 grow4 _; have L4 := Lib.hid (XA.out.growE grow4 own4); clear own4 grow4)
          | fail)
        go_roundw
        case rel => exact ⟨i + 1, ne + 1, G2, K2, T2, ra4, rc4, ga2, gc2, ka2, kc2, ta2, tc2, by omega, by go_num, rfl, rfl, rfl, rfl, by rw [HNR.out], Lib.hid (by rw [HNR.out, HNE.out]; exact L4.out)⟩
        case measure => simp [intOf]; omega
    · have him : m = i := by omega
      have e : ops.take i = ops := by rw [← him, ← hm.out, List.take_length]
      rw [e, hs.out, hes.out] at HL
      simp only [e, hs.out]
      subst him
      clear e hlt hi'
      have hrn := HRM.out
      rw [que_len HL.out.k, que_len HL.out.g] at hrn
      obtain rfl : A = T := by rw [← hA.out, que_len HL.out.t]
      have HNE : Hid (ne = m) := Lib.hid (by rw [← que_len HL.out.e, ← hes.out, errsG_len, hm.out])
      obtain ⟨c0, hc0, hcz, hcs, hcb⟩ := info_parts' info_cell
      have hcb0 : c0.bytes * n ≤ 281474976710656 := by rw [hcb]; omega
      have hnx : n ≤ maxLen := by unfold maxLen; omega
      have hn0 : ¬ n = 0 := by omega
      have hgG : gG < n := by rw [← HGG.out]; exact Nat.mod_lt _ (by omega)
      have hgT : gT < n := by rw [← HGT.out]; exact Nat.mod_lt _ (by omega)
      have hgW : gW < n := by rw [← HGW.out]; exact Nat.mod_lt _ (by omega)
      obtain ⟨gv0, hgv0⟩ : ∃ gv0, s.gives = gv0 := ⟨_, rfl⟩
      obtain ⟨D, hD⟩ : ∃ D, gv0 - G = D := ⟨_, rfl⟩
      have hGl := que_len HL.out.g
      rw [hGl, hgv0] at hgl
      rw [hgv0] at hgm
      have r1 : Int.tmod (gv0 : Int) (n : Int) = (gG : Int) := by rw [← HGG.out, hgv0]; exact Int.ofNat_tmod gv0 n
      have r2 : IntKind.i64.wrap ((gv0 : Int) - (G : Int)) = (D : Int) := by rw [IntKind.wrap_i64]; omega
      have r3 : Int.tmod (D : Int) (n : Int) = (gW : Int) := by rw [← HGW.out, hgv0, hGl, hD]; exact Int.ofNat_tmod D n
      have r4 : Int.tmod (A : Int) (n : Int) = (gT : Int) := by rw [← HGT.out]; exact Int.ofNat_tmod A n
      have q1 : IntKind.i64.wrap (gG : Int) = (gG : Int) := by rw [IntKind.wrap_i64]; omega
      have q3 : IntKind.i64.wrap (gW : Int) = (gW : Int) := by rw [IntKind.wrap_i64]; omega
      have q4 : IntKind.i64.wrap (gT : Int) = (gT : Int) := by rw [IntKind.wrap_i64]; omega
      simp only [hgv0]
      have HB0 := Lib.hid HL.out.b
      have HB1 := Lib.hid HL.out.z
      have hs1 : w.heap.size ≤ wr.drew.heap.size := HL.out.b.size
      have hs2 : w.heap.size ≤ (wr.alloc (.cells #[.slice none 0 0, .int .i64 0, .int .i64 0, .int .i64 0] 24)).drew.heap.size := (HL.out.step (below_alloc wr _)).b.size
      have HLD := Lib.hid (HL.out.step (Below.refl _ _).drew)
      have HLZ := Lib.hid (HL.out.step (below_alloc wr (.cells #[.slice none 0 0, .int .i64 0, .int .i64 0, .int .i64 0] 24)).drew)
      have HZZ : Hid ((wr.alloc (.cells #[.slice none 0 0, .int .i64 0, .int .i64 0, .int .i64 0] 24)).drew.heap[wr.heap.size]? = some (.cells #[.slice none 0 0, .int .i64 0, .int .i64 0, .int .i64 0] tR (0, 0))) := Lib.hid (heap_alloc_new wr _)
      clear hgv0 hGl
      go_upto_region 25 with fail
      go_cut [16] from 106 to 121 (fun v wy => ∃ C B, v = .pointer (some ⟨C, 0, none⟩) ∧ Hid (LpQ w wy C B n (List.replicate n (false, 0)) gG gT gW (.slice ea ne ec) ne es (.slice ga G gc) G s.gv (.slice ka K kc) K s.wk (.slice ta A tc) A s.taken))
      case first =>
        refine wp_region_noPanic ?_
        refine wp_region_held_drew (S := fun w' => LpP w w' (.slice ea ne ec) ne es (.slice ga G gc) G s.gv (.slice ka K kc) K s.wk (.slice ta A tc) A s.taken) (by kernel_rfl) (HLD.out) (fun hHeld => ?_)
        have HDZ := Lib.hid hHeld.z
        generalize World.drew _ = wD at hHeld HDZ ⊢
        refine wpAnyH_take (i := 0) (v := ?_) rfl (by kernel_rfl) (by kernel_rfl) (by kernel_rfl) (fun _ _ _ h => h) (Or.inl ⟨by rfl, ?_⟩) (by assumption) ?_
        rotate_left
        · (intro wz hSw; (try dsimp only at hSw); go_simp; try with_reducible rfl)
        try simp only [List.getElem_toArray, List.getElem_cons_zero, Act.put, List.setIfInBounds_toArray, List.set_cons_zero, List.set_cons_succ]
        refine wpAnyH_take (i := 2) (v := ?_) rfl (by kernel_rfl) (by kernel_rfl) (by kernel_rfl) (fun _ _ _ h => h) (Or.inl ⟨by rfl, ?_⟩) (by assumption) ?_
        rotate_left
        · (intro wz hSw; (try dsimp only at hSw); go_simp; try with_reducible rfl)
        try simp only [List.getElem_toArray, List.getElem_cons_zero, List.getElem_cons_succ, Act.put, List.setIfInBounds_toArray, List.set_cons_zero, List.set_cons_succ]
        refine wpAnyH_take (i := 3) (v := ?_) rfl (by kernel_rfl) (by kernel_rfl) (by kernel_rfl) (fun _ _ _ h => h) (Or.inl ⟨by rfl, ?_⟩) (by assumption) ?_
        rotate_left
        · (intro wz hSw; (try dsimp only at hSw); go_simp; try with_reducible rfl)
        try simp only [List.getElem_toArray, List.getElem_cons_zero, List.getElem_cons_succ, Act.put, List.setIfInBounds_toArray, List.set_cons_zero, List.set_cons_succ]
        refine wpAnyH_take (i := 4) (v := ?_) rfl (by kernel_rfl) (by kernel_rfl) (by kernel_rfl) (fun _ _ _ h => h) (Or.inl ⟨by rfl, ?_⟩) (by assumption) ?_
        rotate_left
        · (intro wz hSw; (try dsimp only at hSw); go_simp; try with_reducible rfl)
        try simp only [List.getElem_toArray, List.getElem_cons_zero, List.getElem_cons_succ, Act.put, List.setIfInBounds_toArray, List.set_cons_zero, List.set_cons_succ]
        refine wpAnyH_take (i := 5) (v := ?_) rfl (by kernel_rfl) (by kernel_rfl) (by kernel_rfl) (fun _ _ _ h => h) (Or.inl ⟨by rfl, ?_⟩) (by assumption) ?_
        rotate_left
        · (intro wz hSw; (try dsimp only at hSw); go_simp; try with_reducible rfl)
        try simp only [List.getElem_toArray, List.getElem_cons_zero, List.getElem_cons_succ, Act.put, List.setIfInBounds_toArray, List.set_cons_zero, List.set_cons_succ]
        refine wpAnyH_take (i := 6) (v := ?_) rfl (by kernel_rfl) (by kernel_rfl) (by kernel_rfl) (fun _ _ _ h => h) (Or.inl ⟨by rfl, ?_⟩) (by assumption) ?_
        rotate_left
        · (intro wz hSw; (try dsimp only at hSw); go_simp; try with_reducible rfl)
        try simp only [List.getElem_toArray, List.getElem_cons_zero, List.getElem_cons_succ, Act.put, List.setIfInBounds_toArray, List.set_cons_zero, List.set_cons_succ]
        refine wpAnyH_take (i := 7) (v := ?_) rfl (by kernel_rfl) (by kernel_rfl) (by kernel_rfl) (fun _ _ _ h => h) (Or.inl ⟨by rfl, ?_⟩) (by assumption) ?_
        rotate_left
        · (intro wz hSw; (try dsimp only at hSw); go_simp; try with_reducible rfl)
        try simp only [List.getElem_toArray, List.getElem_cons_zero, List.getElem_cons_succ, Act.put, List.setIfInBounds_toArray, List.set_cons_zero, List.set_cons_succ]
        refine wpAnyH_take (i := 8) (v := ?_) rfl (by kernel_rfl) (by kernel_rfl) (by kernel_rfl) (fun _ _ _ h => h) (Or.inl ⟨by rfl, ?_⟩) (by assumption) ?_
        rotate_left
        · (intro wz hSw; (try dsimp only at hSw); go_simp; try with_reducible rfl)
        try simp only [List.getElem_toArray, List.getElem_cons_zero, List.getElem_cons_succ, Act.put, List.setIfInBounds_toArray, List.set_cons_zero, List.set_cons_succ]
        refine wpAnyH_take (i := 9) (v := ?_) rfl (by kernel_rfl) (by kernel_rfl) (by kernel_rfl) (fun _ _ _ h => h) (Or.inl ⟨by rfl, ?_⟩) (by assumption) ?_
        rotate_left
        · (intro wz hSw; (try dsimp only at hSw); go_simp; try with_reducible rfl)
        try simp only [List.getElem_toArray, List.getElem_cons_zero, List.getElem_cons_succ, Act.put, List.setIfInBounds_toArray, List.set_cons_zero, List.set_cons_succ]
        refine wpAnyH_take (i := 10) (v := ?_) rfl (by kernel_rfl) (by kernel_rfl) (by kernel_rfl) (fun _ _ _ h => h) (Or.inl ⟨by rfl, ?_⟩) (by assumption) ?_
        rotate_left
        · (intro wz hSw; (try dsimp only at hSw); go_simp; try with_reducible rfl)
        try simp only [List.getElem_toArray, List.getElem_cons_zero, List.getElem_cons_succ, Act.put, List.setIfInBounds_toArray, List.set_cons_zero, List.set_cons_succ]
        refine wpAnyH_take (i := 11) (v := ?_) rfl (by kernel_rfl) (by kernel_rfl) (by kernel_rfl) (fun _ _ _ h => h) (Or.inl ⟨by rfl, ?_⟩) (by assumption) ?_
        rotate_left
        · (intro wz hSw; (try dsimp only at hSw); go_simp; try with_reducible rfl)
        try simp only [List.getElem_toArray, List.getElem_cons_zero, List.getElem_cons_succ, Act.put, List.setIfInBounds_toArray, List.set_cons_zero, List.set_cons_succ]
        refine wpAnyH_take (i := 12) (v := ?_) rfl (by kernel_rfl) (by kernel_rfl) (by kernel_rfl) (fun _ _ _ h => h) (Or.inl ⟨by rfl, ?_⟩) (by assumption) ?_
        rotate_left
        · (intro wz hSw; (try dsimp only at hSw); go_simp; try with_reducible rfl)
        try simp only [List.getElem_toArray, List.getElem_cons_zero, List.getElem_cons_succ, Act.put, List.setIfInBounds_toArray, List.set_cons_zero, List.set_cons_succ]
        refine wpAnyH_take (i := 13) (v := ?_) rfl (by kernel_rfl) (by kernel_rfl) (by kernel_rfl) (fun _ _ _ h => h) (Or.inl ⟨by rfl, ?_⟩) (by assumption) ?_
        rotate_left
        · (intro wz hSw; (try dsimp only at hSw); go_simp; try with_reducible rfl)
        try simp only [List.getElem_toArray, List.getElem_cons_zero, List.getElem_cons_succ, Act.put, List.setIfInBounds_toArray, List.set_cons_zero, List.set_cons_succ]
        refine wpAnyH_take (i := 14) (v := ?_) rfl (by kernel_rfl) (by kernel_rfl) (by kernel_rfl) (fun _ _ _ h => h) (Or.inl ⟨by rfl, ?_⟩) (by assumption) ?_
        rotate_left
        · (intro wz hSw; (try dsimp only at hSw); go_simp; try with_reducible rfl)
        try simp only [List.getElem_toArray, List.getElem_cons_zero, List.getElem_cons_succ, Act.put, List.setIfInBounds_toArray, List.set_cons_zero, List.set_cons_succ]
        refine wpAnyH_ready (rs := [1, 16]) (by kernel_rfl) (by simp) ?_
        refine AllReadyH.cons rfl (fun K hK => ?_) (AllReadyH.cons rfl (fun K hK => ?_) AllReadyH.nil)
        · refine step_make_full rfl _ _ 22 rfl w.heap.size 47 c0 _ 2 Try.underlying22 hc0 hcz hcs .i64 .i64 _ _ n rfl rfl rfl rfl hcb0 hnx hHeld.b.size ?_
          intro w3 hown hgrow
          have b3 : Below wD.heap.size wD w3 := (Below.refl wD.heap.size wD).grown hgrow (Nat.le_refl _) (fun k hk => by cases hk)
          have P3 := hHeld.step b3
          have O3 := que_zero hown
          clear hown hgrow
          try go_simp
          refine hK.out _ _ P3 (fun hHeld => ?_)
          try simp only [List.getElem_toArray, List.getElem_cons_zero, List.getElem_cons_succ, Act.put, List.setIfInBounds_toArray, List.set_cons_zero, List.set_cons_succ]
          have hCw : w.heap.size < w3.heap.size := heap_lt P3.z
          refine wpAnyH_take (i := 15) (v := ?_) rfl (by kernel_rfl) (by kernel_rfl) (by kernel_rfl) (fun _ _ _ h => h) (Or.inl ⟨by rfl, ?_⟩) (by assumption) ?_
          rotate_left
          · (intro wz hSw; (try dsimp only at hSw); go_simp; try with_reducible rfl)
          try simp only [List.getElem_toArray, List.getElem_cons_zero, List.getElem_cons_succ, Act.put, List.setIfInBounds_toArray, List.set_cons_zero, List.set_cons_succ]
          refine wpAnyH_ready (rs := [16]) (by kernel_rfl) (by simp) ?_
          refine AllReadyH.cons rfl (fun K hK => ?_) AllReadyH.nil
          go_simp
          refine hK.out _ _ (hHeld.step (below_alloc w3 (.cells #[.slice none 0 0, .int .i64 0, .int .i64 0, .int .i64 0] 24))) (fun hHeld => ?_)
          try simp only [List.getElem_toArray, List.getElem_cons_zero, List.getElem_cons_succ, Act.put, List.setIfInBounds_toArray, List.set_cons_zero, List.set_cons_succ]
          refine wpAnyH_ready (rs := [17]) (by kernel_rfl) (by simp) ?_
          refine AllReadyH.cons rfl (fun K hK => ?_) AllReadyH.nil
          go_simp
          refine hK.out _ _ (P3.step (below_alloc w3 (.cells #[.slice (some ⟨wD.heap.size, 0, none⟩) n n, .int .i64 (gG : Nat), .int .i64 (gT : Nat), .int .i64 (gW : Nat)] 24))) (fun hHeld => ?_)
          try simp only [List.getElem_toArray, List.getElem_cons_zero, List.getElem_cons_succ, Act.put, List.setIfInBounds_toArray, List.set_cons_zero, List.set_cons_succ]
          refine wpAnyH_done (by kernel_rfl) ?_ _
          refine NoPanic.normal ?_
          go_wp2_with fail
          go_meet
          exact ⟨_, _, rfl, Lib.hid ⟨P3.step (below_alloc w3 (.cells #[.slice (some ⟨wD.heap.size, 0, none⟩) n n, .int .i64 (gG : Nat), .int .i64 (gT : Nat), .int .i64 (gW : Nat)] 24)), heap_alloc_new w3 _, que_step O3 (below_alloc w3 (.cells #[.slice (some ⟨wD.heap.size, 0, none⟩) n n, .int .i64 (gG : Nat), .int .i64 (gT : Nat), .int .i64 (gW : Nat)] 24))⟩⟩
        · go_simp
          refine hK.out _ _ (hHeld.step (below_alloc wD (.cells #[.slice none 0 0, .int .i64 0, .int .i64 0, .int .i64 0] 24))) (fun hHeld => ?_)
          try simp only [List.getElem_toArray, List.getElem_cons_zero, List.getElem_cons_succ, Act.put, List.setIfInBounds_toArray, List.set_cons_zero, List.set_cons_succ]
          have hCw : w.heap.size < wD.heap.size := heap_lt HDZ.out
          refine wpAnyH_ready (rs := [1]) (by kernel_rfl) (by simp) ?_
          refine AllReadyH.cons rfl (fun K hK => ?_) AllReadyH.nil
          · refine step_make_full rfl _ _ 22 rfl w.heap.size 47 c0 _ 2 Try.underlying22 hc0 hcz hcs .i64 .i64 _ _ n rfl rfl rfl rfl hcb0 hnx hHeld.b.size ?_
            intro w3 hown hgrow
            have b3 : Below (wD.alloc (.cells #[.slice none 0 0, .int .i64 0, .int .i64 0, .int .i64 0] 24)).heap.size (wD.alloc (.cells #[.slice none 0 0, .int .i64 0, .int .i64 0, .int .i64 0] 24)) w3 := (Below.refl (wD.alloc (.cells #[.slice none 0 0, .int .i64 0, .int .i64 0, .int .i64 0] 24)).heap.size (wD.alloc (.cells #[.slice none 0 0, .int .i64 0, .int .i64 0, .int .i64 0] 24))).grown hgrow (Nat.le_refl _) (fun k hk => by cases hk)
            have P3 := hHeld.step b3
            have O3 := que_zero hown
            simp only [World.size_alloc] at O3
            have hC := heap_step (heap_alloc_new wD (.cells #[.slice none 0 0, .int .i64 0, .int .i64 0, .int .i64 0] 24)) b3
            clear hown hgrow
            try go_simp
            refine hK.out _ _ P3 (fun hHeld => ?_)
            try simp only [List.getElem_toArray, List.getElem_cons_zero, List.getElem_cons_succ, Act.put, List.setIfInBounds_toArray, List.set_cons_zero, List.set_cons_succ]
            refine wpAnyH_take (i := 15) (v := ?_) rfl (by kernel_rfl) (by kernel_rfl) (by kernel_rfl) (fun _ _ _ h => h) (Or.inl ⟨by rfl, ?_⟩) (by assumption) ?_
            rotate_left
            · (intro wz hSw; (try dsimp only at hSw); go_simp; try with_reducible rfl)
            try simp only [List.getElem_toArray, List.getElem_cons_zero, List.getElem_cons_succ, Act.put, List.setIfInBounds_toArray, List.set_cons_zero, List.set_cons_succ]
            have G3 := four_at hC
            have F3 := fun i => frozen_of_row w3 wD.heap.size i _ _ hC
            have l3 := heap_lt hC
            refine wpAnyH_ready (rs := [17]) (by kernel_rfl) (by simp) ?_
            refine AllReadyH.cons rfl (fun K hK => ?_) AllReadyH.nil
            go_simp
            refine hK.out _ _ (P3.setC hC (Nat.le_of_lt hCw) (fun e => absurd hCw (by rw [e]; exact Nat.lt_irrefl _)) _ _ _ _) (fun hHeld => ?_)
            try simp only [List.getElem_toArray, List.getElem_cons_zero, List.getElem_cons_succ, Act.put, List.setIfInBounds_toArray, List.set_cons_zero, List.set_cons_succ]
            refine wpAnyH_done (by kernel_rfl) ?_ _
            refine NoPanic.normal ?_
            go_wp2_with fail
            go_meet
            exact ⟨_, _, rfl, Lib.hid (lay_start P3 O3 hC hCw)⟩
      case rest =>
      obtain ⟨C, B, rfl, LQ⟩ := hcut
      clear HL HLD HLZ HZZ hs1 hs2 r1 r2 r3 r4 hcb0 HB0
      have RG0 : Hid (RgR n (List.replicate n (false, 0)) (wrR n (gT + 0)) gT (wrR n (gT + 0)) (s.wk.take 0) []) := Lib.hid (by
        have e : wrR n (gT + 0) = gT := by unfold wrR; rw [if_pos (by omega)]; omega
        rw [e, List.take_zero]
        exact ring_empty h2 hgT)
      have hidx : ∀ j, gT + s.wk.length + j < 2 * n → wrR n (gT + s.wk.length + j) = (gW + j) % n := fun j hj => by
        rw [HW.out, wr_mod hj, wr_mod (by omega), Nat.mod_add_mod]
      go_upto_region 27 with fail
      go_loopw [124] (fun v wr => ∃ (j : Nat) (cs : List CeR), j ≤ K ∧ v = .int .i64 j ∧ Hid (LpQ w wr C B n cs gG gT gW (.slice ea ne ec) ne es (.slice ga G gc) G s.gv (.slice ka K kc) K s.wk (.slice ta A tc) A s.taken) ∧ Hid (RgR n cs (wrR n (gT + j)) gT (wrR n (gT + j)) (s.wk.take j) [])) (fun v _ => K - (intOf v).toNat)
      case atStart => exact ⟨0, List.replicate n (false, 0), Nat.zero_le _, rfl, LQ, RG0⟩
      case round =>
        clear LQ RG0
        obtain ⟨j, cs, hjn, rfl, HQ, HRG⟩ := hrel
        by_cases hlt : j < K
        · have hln : s.wk.length = K := que_len HQ.out.p.k
          obtain ⟨d, hd⟩ : ∃ d, s.wk[j]? = some d := ⟨s.wk[j]'(by rw [hln]; exact hlt), List.getElem?_eq_getElem _⟩
          have HD := Lib.hid hd
          obtain ⟨bb, lo, rfl, hbl, cd⟩ := at_int (que_at HQ.out.p.k) hd
          have hat := ring_at_give HRG.out
          obtain ⟨q, hq⟩ : ∃ q, (wrR n (gT + j)) = q := ⟨_, rfl⟩
          rw [hq] at hat
          have HQI := Lib.hid hq
          have hqn : q < n := by
            rw [← HRG.out.len]
            exact (List.getElem?_eq_some_iff.1 hat).1
          have HAT := Lib.hid hat
          have hjl : gT + j < 2 * n := by omega
          have xa : IntKind.i64.wrap ((gT : Int) + (j : Int)) = ((gT + j : Nat) : Int) := by rw [IntKind.wrap_i64]; omega
          have xb : Int.tmod ((gT + j : Nat) : Int) (n : Int) = (q : Int) := by
            rw [← hq]
            rw [wr_mod hjl]; exact Int.ofNat_tmod (gT + j) n
          have xc : IntKind.i64.wrap (q : Int) = (q : Int) := by rw [IntKind.wrap_i64]; omega
          obtain ⟨bj, hbj⟩ : ∃ bj, gT + j = bj := ⟨_, rfl⟩
          rw [hbj] at xa xb
          have GC := four_at HQ.out.c
          have lC := heap_lt HQ.out.c
          obtain ⟨b9, f9, e9, lB, u0, u1⟩ := at_ce (que_at HQ.out.q) hat
          simp only [Option.some.injEq, Addr.mk.injEq, and_true] at e9
          obtain ⟨rfl, rfl⟩ := e9
          simp only [Nat.zero_add] at u0 u1
          have FB := fun i => que_froz HQ.out.q i
          have hqi : (q : Int) < (n : Int) := by omega
          clear hd hat hq hbj
          go_wp2_with fail
          go_region
          all_goals go_wp2_with fail
          all_goals go_roundw
          case rel =>
            refine ⟨j + 1, cs.set q (false, d), by omega, by go_num, Lib.hid ?_, Lib.hid ?_⟩
            · exact (HQ.out.data HAT.out d).step (Below.refl _ _).drew
            · have h := lay_work hgT HD.out (by omega) HRG.out
              rw [HQI.out] at h
              exact h
          case measure => simp [intOf]; omega
        · have hj2 : K = j := by omega
          have hln : s.wk.length = K := que_len HQ.out.p.k
          have htk : s.wk.take j = s.wk := by rw [← hj2, ← hln, List.take_length]
          have HR2 := HRG.out
          rw [htk] at HR2
          subst hj2
          rw [← hln] at HR2
          have RG2 : Hid (RgR n cs (wrR n (gT + s.wk.length + 0)) gT (wrR n (gT + s.wk.length)) s.wk (s.gv.take 0)) := Lib.hid HR2
          have LQ2 := HQ
          generalize hcs2 : cs = cs2 at LQ2 RG2
          clear HQ HRG HR2 hcs2
          go_upto_region 32 with fail
          go_loopw [143] (fun v wr => ∃ (j : Nat) (cs : List CeR), j ≤ G ∧ v = .int .i64 j ∧ Hid (LpQ w wr C B n cs gG gT gW (.slice ea ne ec) ne es (.slice ga G gc) G s.gv (.slice ka K kc) K s.wk (.slice ta A tc) A s.taken) ∧ Hid (RgR n cs (wrR n (gT + s.wk.length + j)) gT (wrR n (gT + s.wk.length)) s.wk (s.gv.take j))) (fun v _ => G - (intOf v).toNat)
          case atStart => exact ⟨0, cs2, Nat.zero_le _, rfl, LQ2, RG2⟩
          case round =>
            clear LQ2 RG2
            obtain ⟨j, cs, hjn, rfl, HQ, HRG⟩ := hrel
            by_cases hlt : j < G
            · have hln : s.gv.length = G := que_len HQ.out.p.g
              obtain ⟨d, hd⟩ : ∃ d, s.gv[j]? = some d := ⟨s.gv[j]'(by rw [hln]; exact hlt), List.getElem?_eq_getElem _⟩
              have HD := Lib.hid hd
              obtain ⟨bb, lo, rfl, hbl, cd⟩ := at_int (que_at HQ.out.p.g) hd
              have hat := ring_at_give HRG.out
              obtain ⟨q, hq⟩ : ∃ q, (wrR n (gT + s.wk.length + j)) = q := ⟨_, rfl⟩
              rw [hq] at hat
              have HQI := Lib.hid hq
              have hqn : q < n := by
                rw [← HRG.out.len]
                exact (List.getElem?_eq_some_iff.1 hat).1
              have HAT := Lib.hid hat
              have hjl : gW + j < 2 * n := by omega
              have xa : IntKind.i64.wrap ((gW : Int) + (j : Int)) = ((gW + j : Nat) : Int) := by rw [IntKind.wrap_i64]; omega
              have xb : Int.tmod ((gW + j : Nat) : Int) (n : Int) = (q : Int) := by
                rw [← hq]
                rw [hidx j (by have h1 := que_len HQ.out.p.k; omega)]; exact Int.ofNat_tmod (gW + j) n
              have xc : IntKind.i64.wrap (q : Int) = (q : Int) := by rw [IntKind.wrap_i64]; omega
              obtain ⟨bj, hbj⟩ : ∃ bj, gW + j = bj := ⟨_, rfl⟩
              rw [hbj] at xa xb
              have GC := four_at HQ.out.c
              have lC := heap_lt HQ.out.c
              obtain ⟨b9, f9, e9, lB, u0, u1⟩ := at_ce (que_at HQ.out.q) hat
              simp only [Option.some.injEq, Addr.mk.injEq, and_true] at e9
              obtain ⟨rfl, rfl⟩ := e9
              simp only [Nat.zero_add] at u0 u1
              have FB := fun i => que_froz HQ.out.q i
              have hqi : (q : Int) < (n : Int) := by omega
              clear hd hat hq hbj
              go_wp2_with fail
              go_region
              all_goals go_wp2_with fail
              all_goals go_roundw
              case rel =>
                refine ⟨j + 1, cs.set q (true, d), by omega, by go_num, Lib.hid ?_, Lib.hid ?_⟩
                · exact (HQ.out.cell HAT.out (true, d)).step (Below.refl _ _).drew
                · have h := lay_give hgT HD.out HRM.out HRG.out
                  rw [HQI.out] at h
                  exact h
              case measure => simp [intOf]; omega
            · have hj2 : G = j := by omega
              have hln : s.gv.length = G := que_len HQ.out.p.g
              have htk : s.gv.take j = s.gv := by rw [← hj2, ← hln, List.take_length]
              have HR2 := HRG.out
              rw [htk] at HR2
              subst hj2
              rw [← hln] at HR2
              have RGF := Lib.hid HR2
              have hTI := HIX.out cs HR2
              have HTI := Lib.hid hTI
              have GC := four_at HQ.out.c
              have lC := heap_lt HQ.out.c
              have GZ := four_at HQ.out.p.z
              have FZ := fun i => frozen_of_row wr w.heap.size i _ _ HQ.out.p.z
              have lZ := heap_lt HQ.out.p.z
              clear hln htk HR2 hTI HRG hjn
              go_wp2_with fail
              go_region
              all_goals go_wp2_with fail
              all_goals refine bodyPost_ret (results_tmp2_row_tmp1 rfl _ _ w.heap.size 24 #[.slice (some ⟨B, 0, none⟩) n n, .int .i64 (gG : Nat), .int .i64 (gT : Nat), .int .i64 (gW : Nat)] (0, 0) _ rfl (four_set HQ.out.p.z) Try.underlying24 rfl size_ring) rfl ?_
              all_goals exact lay_fin HQ.out HTI.out HNE.out
end Go.Proofs.Ytipkmmajhhcadaa
