/- CoresBusy: the walk. -/
import Derived.Test.YtningajaimbncaaCorK
import Derived.Test.YtningajaimbncaaCorO
import Derived.Test.YtningajaimbncaaFind
import Derived.Lib.MinMax
namespace Go.Proofs.Ytningajaimbncaa
open Go.RowKit

theorem mem_fn {l : List Int} {n : Nat} (hl : l.length = n) (v : Int) : v ∈ l ↔ ∃ i, i < n ∧ fnL l i = v := by
  subst hl
  rw [List.mem_iff_getElem]
  constructor
  · rintro ⟨i, hi, e⟩
    exact ⟨i, hi, by rw [← e]; have := fnL_get hi; rw [List.getElem?_eq_getElem hi] at this; exact (Option.some.inj this).symm⟩
  · rintro ⟨i, hi, e⟩
    exact ⟨i, hi, by rw [← e]; have := fnL_get hi; rw [List.getElem?_eq_getElem hi] at this; exact Option.some.inj this⟩
theorem contains_Q {ad : Option Addr} {cap n : Nat} {l : List Int} (v : Int) (w : World) (HA : Hid (shI.At w ad cap l)) (hl : Hid (l.length = n)) (hn : n ≤ 9223372036854775807) (q : Bool) (hq : Hid (q = true ↔ v ∈ l)) :
    Calls Try.prog 16 #[.slice ad n cap, .int .i64 v] w fun e w' => e = .returned (.bool q) ∧ w' = w :=
  (contains_N v w (Lib.hid (IntAt.of HA.out hl.out)) hn q (Lib.hid (by rw [hq.out]; exact mem_fn hl.out v))).mono fun _ _ h => ⟨h.1, h.2.symm⟩
theorem contains_P {ad : Option Addr} {cap n : Nat} {l : List Int} (v : Int) (w : World) (HA : Hid (shI.At w ad cap l)) (hl : Hid (l.length = n)) (hn : n ≤ 9223372036854775807) (q : Bool) (hq : Hid (q = true ↔ v ∈ l)) :
    Calls Try.prog 16 #[.slice ad n cap, .int .i64 v] w fun e w' => e = .returned (.bool q) ∧ w = w' :=
  (contains_Q v w HA hl hn q hq).mono fun _ _ h => ⟨h.1, h.2.symm⟩
theorem contains_T {ad : Option Addr} {cap n : Nat} {l : List Int} (v : Int) (w : World) (HA : Hid (shI.At w ad cap l)) (hl : Hid (l.length = n)) (hn : n ≤ 9223372036854775807) (hq : Hid (v ∈ l)) :
    Calls Try.prog 16 #[.slice ad n cap, .int .i64 v] w fun e w' => e = .returned (.bool true) ∧ w' = w :=
  contains_Q v w HA hl hn true (Lib.hid ⟨fun _ => hq.out, fun _ => rfl⟩)
theorem contains_F {ad : Option Addr} {cap n : Nat} {l : List Int} (v : Int) (w : World) (HA : Hid (shI.At w ad cap l)) (hl : Hid (l.length = n)) (hn : n ≤ 9223372036854775807) (hq : Hid (¬ v ∈ l)) :
    Calls Try.prog 16 #[.slice ad n cap, .int .i64 v] w fun e w' => e = .returned (.bool false) ∧ w' = w :=
  contains_Q v w HA hl hn false (Lib.hid ⟨(fun h => by cases h), fun h => absurd h hq.out⟩)
/-- Those who are ready in tick t, of the first i. -/
def rdyN (T : ThN) (t i : Nat) : List Nat := (List.range i).filter fun k => decide (T.come k ≤ t ∧ 0 < (T.stN t).left k)
theorem rdy_succ (T : ThN) (t i : Nat) : rdyN T t (i + 1) = rdyN T t i ++ if T.come i ≤ t ∧ 0 < (T.stN t).left i then [i] else [] := by
  unfold rdyN
  rw [List.range_succ, List.filter_append]
  congr 1
  by_cases h : T.come i ≤ t ∧ 0 < (T.stN t).left i
  · rw [if_pos h]; simp [h]
  · rw [if_neg h]; simp; omega
theorem rdy_len (T : ThN) (t i : Nat) : (rdyN T t i).length ≤ i := by
  unfold rdyN
  have := List.length_filter_le (fun k => decide (T.come k ≤ t ∧ 0 < (T.stN t).left k)) (List.range i)
  simpa using this
theorem mem_rdy {T : ThN} {t k : Nat} : k ∈ rdyN T t T.m ↔ k < T.m ∧ T.come k ≤ t ∧ 0 < (T.stN t).left k := by
  unfold rdyN
  rw [List.mem_filter, List.mem_range, decide_eq_true_eq]
theorem mem_cast {l : List Nat} {k : Nat} : ((k : Nat) : Int) ∈ l.map (fun x => ((x : Nat) : Int)) ↔ k ∈ l := by
  rw [List.mem_map]
  constructor
  · rintro ⟨x, hx, e⟩
    have : x = k := by omega
    exact this ▸ hx
  · intro h
    exact ⟨k, h, rfl⟩
theorem mem_row {T : ThN} {t k : Nat} : ((k : Nat) : Int) ∈ rowN T t ↔ k ∈ T.runN t := by
  unfold rowN
  rw [(List.mergeSort_perm _ _).mem_iff, mem_cast]
/-- The row rises. -/
theorem row_rise {T : ThN} (hl : ∀ k, k < T.m → T.lev k < 32) (t : Nat) {i : Nat} {x y : Int} (hx : (rowN T t)[i]? = some x) (hy : (rowN T t)[i + 1]? = some y) : x < y := by
  have hn : ((T.runN t).map fun k => ((k : Nat) : Int)).Pairwise fun a b => ¬ a = b := by
    rw [List.pairwise_map]
    exact (run_nod hl t).imp fun h q => h (by omega)
  have hs : (rowN T t).Pairwise fun a b => a ≤ b := by
    have := List.pairwise_mergeSort (le := fun x y : Int => decide (x ≤ y)) (by intro a b c; simp; omega) (by intro a b; simp; omega) ((T.runN t).map fun k => ((k : Nat) : Int))
    exact this.imp fun h => by simpa using h
  have hd : (rowN T t).Pairwise fun a b => ¬ a = b := ((List.mergeSort_perm _ _).pairwise_iff (fun h q => h q.symm)).2 hn
  obtain ⟨hi, hx⟩ := List.getElem?_eq_some_iff.1 hx
  obtain ⟨hj, hy⟩ := List.getElem?_eq_some_iff.1 hy
  have h1 := List.pairwise_iff_getElem.1 hs i (i + 1) hi hj (by omega)
  have h2 := List.pairwise_iff_getElem.1 hd i (i + 1) hi hj (by omega)
  rw [hx, hy] at h1 h2
  omega
/-- What is left of thread k, i numbers into row t. -/
def lftT (T : ThN) (t i k : Nat) : Int := (((T.stN t).left k : Nat) : Int) - ((cntI ((rowN T t).take i) k : Nat) : Int)
theorem lftT_zero (T : ThN) (t k : Nat) : lftT T t 0 k = (((T.stN t).left k : Nat) : Int) := by simp [lftT, cntI]
theorem lftT_next {T : ThN} {t i x : Nat} (hx : (rowN T t)[i]? = some ((x : Nat) : Int)) (k : Nat) : lftT T t (i + 1) k = upF (lftT T t i) x (lftT T t i x - 1) k := by
  unfold lftT upF
  rw [cntI_next hx]
  by_cases h : k = x
  · rw [if_pos h, if_pos h, h]; omega
  · rw [if_neg h, if_neg h]
theorem lftT_end {T : ThN} (hl : ∀ k, k < T.m → T.lev k < 32) (t k : Nat) : lftT T t (rowN T t).length k = (((T.stN (t + 1)).left k : Nat) : Int) := by
  unfold lftT
  rw [List.take_length, cnt_row hl, left_succ]
  by_cases h : k ∈ T.runN t
  · rw [if_pos h, if_pos h]
    have := (run_ready hl t k h).2.2
    omega
  · rw [if_neg h, if_neg h]; omega
theorem lftT_le {l : List ThT} {c sl : Nat} (hok : OkT l c sl) {t i k : Nat} (hk : k < l.length) (hi : i ≤ 64) : -64 ≤ lftT (thN l c sl) t i k ∧ lftT (thN l c sl) t i k ≤ 10000 := by
  unfold lftT
  have h1 := (inv_st hok.lev t).sum k
  have h2 := hok.work k hk
  have h3 : cntI ((rowN (thN l c sl) t).take i) k ≤ i := Nat.le_trans List.count_le_length (List.length_take_le _ _)
  omega
theorem LpC.grown {w1 wr w' : World} {B m : Nat} {f : Nat → Int} (h : LpC w1 wr B m f) {base e sz n : Nat} {v : Value} {xs : List Value} (ho : wr.ownsRow base e sz v n xs) (hB : B < base) (hbase : w1.heap.size ≤ base) (hg : wr.grownBy w' v.ownBlock) : LpC w1 w' B m f :=
  ⟨h.b.grown hg h.b.size (fun _ e => Nat.le_trans hbase (own_lt ho e).1), h.r.same (hg.block B h.r.lt (fun e => by have := (own_lt ho e.symm).1; omega)), h.lt⟩
set_option maxHeartbeats 4000000 in
set_option maxRecDepth 100000 in
theorem busy_W {ad : Option Addr} {cap m : Nat} {l : List ThT} (c sl tk : Int) (w : World) (HA : Hid (shT.At w ad cap l)) (hm : Hid (l.length = m)) (hm9 : m ≤ 9223372036854775807) :
    Calls Try.prog 4 #[.int .i64 c, .int .i64 sl, .slice ad m cap, .int .i64 tk] w fun e w' => e = .returned (.bool true) ∧ Below w.heap.size w w' := by
  obtain ⟨i0, hi, hz0, hz1, hz2⟩ := info_parts info_int
  obtain ⟨j0, hj0, hy0, hy1, hy2⟩ := info_parts' info_int
  by_cases hok : wrongN c sl l = 0 ∧ 0 ≤ tk ∧ tk ≤ 2000
  · obtain ⟨hok, htk0, htk2⟩ := hok
    obtain ⟨c', sl', rfl, rfl, hO⟩ := wrong_ok hok
    obtain ⟨n, rfl⟩ : ∃ n : Nat, tk = n := ⟨tk.toNat, by omega⟩
    have HOK := Lib.hid hO
    have hn2 : n ≤ 2000 := by omega
    have hm64 : m ≤ 64 := by rw [← hm.out]; exact hO.len
    have hb0 : i0.bytes * m ≤ 281474976710656 := by rw [hz2]; omega
    have hmk : m ≤ maxLen := by unfold maxLen; omega
    have HLEV := Lib.hid hO.lev
    have HTM : Hid ((thN l c' sl').m = m) := hm
    have HTC : Hid ((thN l c' sl').c = c') := Lib.hid rfl
    have HTT := Lib.hid (fun (k : Nat) (x : ThT) (hx : l[k]? = some x) => hO.at' hx)
    have HLF := Lib.hid (fun (t i k : Nat) (hk : k < m) (hi : i ≤ 64) => lftT_le hO (t := t) (i := i) (by rw [hm.out]; exact hk) hi)
    clear hok htk0 htk2 hO
    go_enter Try.func4, Try.ntmps4
    go_wp2_with (first
      | (go_at_call 15; (with_reducible refine (alive14_N _).mono ?_); rintro e w1 ⟨rfl, hb⟩; have HB1 := Lib.hid hb; have HA1 := Lib.hid (HA.out.step hb); clear hb)
      | (go_at_call 8; (with_reducible refine (run_ok n _ HA1 hm HOK hn2).mono ?_); rintro e w2 ⟨E, rfl, hR, hb2⟩; have HR := Lib.hid hR; have HB3 := Lib.hid (pstep HB1.out hb2); have HA2 := Lib.hid (HA1.out.step hb2); clear hR hb2)
      | (at_make; refine wpList_make_full _ rfl _ _ 29 rfl w2.heap.size 3 i0 _ 1 Try.underlying29 hi hz0 hz1 .i64 .i64 _ _ m rfl rfl rfl rfl hb0 hmk (Nat.le_refl _) ?_; intro w3 hown hgrow)
      | fail)
    obtain ⟨T, hT⟩ : ∃ T, thN l c' sl' = T := ⟨_, rfl⟩
    rw [hT] at HR HLEV HTM HTC HTT HLF
    have L0 : LpC w2 w3 w2.heap.size m (fun k => if k < 0 then ((T.work k : Nat) : Int) else 0) := ⟨(Below.refl w2.heap.size w2).grown hgrow (Nat.le_refl _) (fun k hk => by cases hk), (RowZ.made (by rw [Nat.mul_one] at hown; exact hown)).congr (fun i _ => by simp), Nat.le_refl _⟩
    have L1 := Lib.hid L0
    clear L0 hown hgrow hT HA1 HB1
    generalize w2.heap.size = B at L1 ⊢
    go_wp2_with fail
    go_loopw [45] (fun i wr => ∃ k : Nat, k ≤ m ∧ i = .int .i64 k ∧ Hid (LpC w2 wr B m (fun x => if x < k then ((T.work x : Nat) : Int) else 0))) (fun i _ => m - (intOf i).toNat)
    case atStart => exact ⟨0, Nat.zero_le _, rfl, L1⟩
    case round =>
      clear L1
      obtain ⟨k, hk, rfl, L⟩ := hrel
      by_cases hlt : k < m
      · obtain ⟨x, hx⟩ : ∃ x, l[k]? = some x := ⟨l[k]'(by rw [hm.out]; exact hlt), List.getElem?_eq_getElem _⟩
        obtain ⟨b, off, rfl, hbl, g0, g1, g2⟩ := at_th (HA2.out.step L.out.b) hx
        obtain ⟨-, -, hw, -⟩ := HTT.out k x hx
        obtain ⟨tc, tl, tw⟩ := x
        simp only at g0 g1 g2 hw
        obtain ⟨z, hz⟩ : ∃ z, T.work k = z := ⟨_, rfl⟩
        rw [hz] at hw
        rw [hw] at g2
        have HZ := Lib.hid hz
        have LA := Lib.hid (L.out.step (below_alloc wr (.cells #[.int .i64 tc, .int .i64 tl, .int .i64 (z : Nat)] 35)))
        have c0 := LA.out.r.cell hlt
        have f0 := LA.out.r.frozen k
        have hBl := L.out.r.lt
        have LN := Lib.hid ((L.out.put hlt ((z : Nat) : Int)).step (below_alloc _ (.cells #[.int .i64 tc, .int .i64 tl, .int .i64 (z : Nat)] 35)))
        clear hx hw hz
        go_wp2_with fail
        go_roundw
        case rel => exact ⟨k + 1, by omega, by go_num, Lib.hid (LN.out.congr fun i _ => by
          show (if i < k + 1 then ((T.work i : Nat) : Int) else 0) = if i = k then ((z : Nat) : Int) else if i < k then ((T.work i : Nat) : Int) else 0
          by_cases e : i = k
          · rw [if_pos e, if_pos (by omega), e, HZ.out]
          · rw [if_neg e]
            by_cases e2 : i < k
            · rw [if_pos e2, if_pos (by omega)]
            · rw [if_neg e2, if_neg (by omega)])⟩
        case measure => simp [intOf]; omega
      · obtain rfl : k = m := by omega
        have L2 := Lib.hid (L.out.congr (g := fun x => (((T.stN 0).left x : Nat) : Int)) fun i hi => by
          show ((T.work i : Nat) : Int) = _
          rw [if_pos hi])
        clear L hlt hk
        go_wp2_with fail
        go_loopw [58] (fun i wr => ∃ t : Nat, t ≤ n ∧ i = .int .i64 t ∧ Hid (LpC w2 wr B k (fun x => (((T.stN t).left x : Nat) : Int)))) (fun i _ => n - (intOf i).toNat)
        case atStart => exact ⟨0, Nat.zero_le _, rfl, L2⟩
        case round =>
          clear L2
          obtain ⟨t, ht, rfl, L⟩ := hrel
          by_cases hlt : t < n
          · obtain ⟨b, off, ra, rc, hEb, hbl, e0, hA⟩ := HR.out.2 t hlt
            simp only [Option.some.injEq, Addr.mk.injEq, and_true] at hEb
            obtain ⟨rfl, rfl⟩ := hEb
            have e1 := (L.out.b.cell (p := ⟨E, 0 + t, none⟩) hbl).trans e0
            have hbr : E < wr.heap.size := Nat.lt_of_lt_of_le hbl L.out.b.size
            rw [Nat.zero_add] at e1
            obtain ⟨rl, hrl⟩ : ∃ rl, (rowN T t).length = rl := ⟨_, rfl⟩
            rw [hrl] at e1
            have HRL := Lib.hid hrl
            have HAR2 := Lib.hid hA
            have hrl64 : rl ≤ 64 := by
              rw [← hrl, rowN_len]
              exact Nat.le_trans (nod_len (run_nod HLEV.out t) fun k hk => (run_ready HLEV.out t k hk).1) (by have := HTM.out; omega)
            have hBl := L.out.r.lt
            clear hA hrl e0 hbl
            go_upto_region 16 with fail
            go_wp2_with fail
            obtain ⟨wo, rfl⟩ : ∃ wo : World, wo = wr := ⟨_, rfl⟩
            go_loopw [16, 65] (fun v i wr => ∃ q : Nat, q ≤ k ∧ i = .int .i64 q ∧ Hid (LpC w2 wr B k (fun x => (((T.stN t).left x : Nat) : Int))) ∧ Hid (Below wo.heap.size wo wr) ∧ Hid (wr.ownsRow wo.heap.size 3 1 v (rdyN T t q).length (shI.flat ((rdyN T t q).map fun x => ((x : Nat) : Int))))) (fun _ i _ => k - (intOf i).toNat)
            case atStart => exact ⟨0, Nat.zero_le _, rfl, L, Lib.hid (Below.refl _ _), Lib.hid (World.ownsRow_nil _ _ _ _)⟩
            case round =>
              obtain ⟨q, hq, rfl, L3, B3, O3⟩ := hrel
              by_cases hlt2 : q < k
              · obtain ⟨x, hx⟩ : ∃ x, l[q]? = some x := ⟨l[q]'(by rw [hm.out]; exact hlt2), List.getElem?_eq_getElem _⟩
                obtain ⟨b, off, rfl, hbl, g0, g1, g2⟩ := at_th (HA2.out.step L3.out.b) hx
                obtain ⟨hc, -, -, -, hcb, -⟩ := HTT.out q x hx
                obtain ⟨tc, tl, tw⟩ := x
                simp only at g0 g1 g2 hc
                obtain ⟨y, hy⟩ : ∃ y, T.come q = y := ⟨_, rfl⟩
                rw [hy] at hc hcb
                rw [hc] at g0
                have HY := Lib.hid hy
                have LA := Lib.hid (L3.out.step (below_alloc wr (.cells #[.int .i64 (y : Nat), .int .i64 tl, .int .i64 tw] 35)))
                have BA := Lib.hid (pstep B3.out (below_alloc wr (.cells #[.int .i64 (y : Nat), .int .i64 tl, .int .i64 tw] 35)))
                have OA := Lib.hid (own_step O3.out (below_alloc wr (.cells #[.int .i64 (y : Nat), .int .i64 tl, .int .i64 tw] 35)))
                have c0 := L3.out.r.cell hlt2
                have hBl3 := L3.out.r.lt
                obtain ⟨z, hz⟩ : ∃ z, (T.stN t).left q = z := ⟨_, rfl⟩
                rw [hz] at c0
                have HZ := Lib.hid hz
                have HS := Lib.hid (rdy_succ T t q)
                have hrq := rdy_len T t q
                clear hx hc hy hz
                by_cases h1 : y ≤ t
                · by_cases h2 : 0 < z
                  · have p1 : (y : Int) ≤ (t : Int) := by omega
                    have p2 : (0 : Int) < (z : Int) := by omega
                    obtain ⟨sa, sc, rfl, _⟩ := own_shape O3.out
                    obtain ⟨rq, hrqe⟩ : ∃ rq, (rdyN T t q).length = rq := ⟨_, rfl⟩
                    rw [hrqe] at OA hrq O3 ⊢
                    have HRQ := Lib.hid hrqe
                    have HLL : Hid (((rdyN T t q).map fun x => ((x : Nat) : Int)).length = rq) := Lib.hid (by rw [List.length_map]; exact hrqe)
                    have BB := below_alloc (wr.alloc (.cells #[.int .i64 (y : Nat), .int .i64 tl, .int .i64 tw] 35)) (.cells #[.int .i64 (q : Nat)] 3)
                    have OB := Lib.hid (own_step OA.out BB)
                    have LB := Lib.hid (LA.out.step BB)
                    have BBB := Lib.hid (pstep BA.out BB)
                    have NB : Hid (shI.At ((wr.alloc (.cells #[.int .i64 (y : Nat), .int .i64 tl, .int .i64 tw] 35)).alloc (.cells #[.int .i64 (q : Nat)] 3)) (some ⟨wr.heap.size + 1, 0, none⟩) 1 [((q : Nat) : Int)]) := Lib.hid (by
                      have := int_one (wr.alloc (.cells #[.int .i64 (y : Nat), .int .i64 tl, .int .i64 tw] 35)) (q : Nat) 1
                      simp only [World.size_alloc] at this
                      exact this)
                    have hwo := L.out.b.size
                    have hwr := B3.out.size
                    clear hrqe BB
                    go_wp2_with (first
                      | (at_builtin; refine wpList_append_n shI rfl _ _ 29 rfl wo.heap.size 3 j0 _ 8 Try.underlying29 hj0 hy0 hy1 hy2 rfl (.slice sa rq sc) rq ((rdyN T t q).map fun x => ((x : Nat) : Int)) [((q : Nat) : Int)] HLL rfl OB.out (some ⟨wr.heap.size + 1, 0, none⟩) 1 1 rfl (Lib.hid rfl) NB.out (by unfold maxLen; omega) (by omega) (by simp; omega) ?_; intro ra5 rc5 w5 own5 grow5 _; have O5 := Lib.hid own5; have L5 := Lib.hid (LB.out.grown OB.out hBl hwo grow5); have B5 := Lib.hid (BBB.out.grown grow5 (by simp; omega) (fun j hj => (own_lt OB.out hj).1)); clear own5 grow5)
                      | fail)
                    go_roundw
                    case rel => exact ⟨q + 1, by omega, by go_num, L5, B5, Lib.hid (by
                      rw [HS.out, if_pos ⟨by rw [HY.out]; exact h1, by rw [HZ.out]; exact h2⟩, List.map_append, List.length_append, HRQ.out]
                      exact O5.out)⟩
                    case measure => simp [intOf]; omega
                  · have p1 : (y : Int) ≤ (t : Int) := by omega
                    have p2 : ¬ (0 : Int) < (z : Int) := by omega
                    go_wp2_with fail
                    go_roundw
                    case rel => exact ⟨q + 1, by omega, by go_num, LA, BA, Lib.hid (by
                      rw [HS.out, if_neg (by rw [HZ.out]; omega), List.append_nil]
                      exact OA.out)⟩
                    case measure => simp [intOf]; omega
                · have p1 : ¬ (y : Int) ≤ (t : Int) := by omega
                  go_wp2_with fail
                  go_roundw
                  case rel => exact ⟨q + 1, by omega, by go_num, LA, BA, Lib.hid (by
                    rw [HS.out, if_neg (by rw [HY.out]; omega), List.append_nil]
                    exact OA.out)⟩
                  case measure => simp [intOf]; omega
              · obtain rfl : q = k := by omega
                have hrdl := run_len HLEV.out t (ready := rdyN T t T.m) ((nod_range _).filter _) (fun k => mem_rdy)
                rw [HTM.out, HTC.out, ← rowN_len, HRL.out] at hrdl
                obtain ⟨sa, sc, rfl, _⟩ := own_shape O3.out
                have HRA := Lib.hid (Shape.At.own (S := shI) O3.out (List.length_map _))
                have hrq := rdy_len T t q
                obtain ⟨rq, hrqe⟩ : ∃ rq, (rdyN T t q).length = rq := ⟨_, rfl⟩
                rw [hrqe] at hrdl hrq
                have hmin : min (c' : Int) (rq : Int) = (rl : Int) := by omega
                have HLL : Hid (((rdyN T t q).map fun x => ((x : Nat) : Int)).length = rq) := Lib.hid (by rw [List.length_map]; exact hrqe)
                have HME : Hid (∀ x : Nat, x ∈ rdyN T t q ↔ x < q ∧ T.come x ≤ t ∧ 0 < (T.stN t).left x) := Lib.hid fun x => by
                  have := mem_rdy (T := T) (t := t) (k := x)
                  rw [HTM.out] at this
                  exact this
                have hBl3 := L3.out.r.lt
                have hrqb : rq ≤ 9223372036854775807 := by omega
                have hrlb : rl ≤ 9223372036854775807 := by omega
                rw [hrqe]
                clear hlt2 hq hrqe hrdl e1 hbr O3
                go_wp2_with fail
                obtain ⟨wq, rfl⟩ : ∃ wq : World, wq = wr := ⟨_, rfl⟩
                go_loopw [95] (fun v wr => ∃ i : Nat, i ≤ rl ∧ v = .int .i64 i ∧ Hid (Below wq.heap.size wq wr)) (fun v _ => rl - (intOf v).toNat)
                case atStart => exact ⟨0, Nat.zero_le _, rfl, Lib.hid (Below.refl _ _)⟩
                case round =>
                  clear hmin
                  obtain ⟨i, hi', rfl, B4⟩ := hrel
                  by_cases hlt2 : i < rl
                  · obtain ⟨x, hx⟩ : ∃ x, (rowN T t)[i]? = some x := ⟨(rowN T t)[i]'(by rw [HRL.out]; exact hlt2), List.getElem?_eq_getElem _⟩
                    obtain ⟨kk, rfl, hkr, hkm⟩ := row_mem HLEV.out hx
                    rw [HTM.out] at hkm
                    have HRU := Lib.hid (HAR2.out.step (pstep L3.out.b B4.out))
                    have HRB := Lib.hid (HRA.out.step B4.out)
                    obtain ⟨b2, o2, rfl, hb2, e2⟩ := at_int HRU.out hx
                    have HQ1 : Hid (true = true ↔ ((kk : Nat) : Int) ∈ (rdyN T t q).map fun x => ((x : Nat) : Int)) := Lib.hid ⟨fun _ => mem_cast.2 ((HME.out kk).2 (by have := run_ready HLEV.out t kk hkr; rw [HTM.out] at this; exact this)), fun _ => rfl⟩
                    have HKR := Lib.hid hkr
                    by_cases h0 : i = 0
                    · subst h0
                      rw [Nat.add_zero] at e2
                      clear hx hkr
                      go_wp2_with (first
                        | (go_at_call 16; (with_reducible refine (contains_P _ _ HRB HLL hrqb true HQ1).mono ?_); rintro e w6 ⟨rfl, rfl⟩)
                        | fail)
                      obtain ⟨wp, rfl⟩ : ∃ wp : World, wp = wr := ⟨_, rfl⟩
                      go_loopw [119] (fun v wr => ∃ j : Nat, j ≤ rq ∧ v = .int .i64 j ∧ Hid (Below wp.heap.size wp wr)) (fun v _ => rq - (intOf v).toNat)
                      case atStart => exact ⟨0, Nat.zero_le _, rfl, Lib.hid (Below.refl _ _)⟩
                      case round =>
                        obtain ⟨j, hj', rfl, B5⟩ := hrel
                        have B6 := Lib.hid (pstep B4.out B5.out)
                        by_cases hlt3 : j < rq
                        · obtain ⟨o, ho⟩ : ∃ o, (rdyN T t q)[j]? = some o := ⟨(rdyN T t q)[j]'(by have := HLL.out; rw [List.length_map] at this; omega), List.getElem?_eq_getElem _⟩
                          have hox : ((rdyN T t q).map fun x => ((x : Nat) : Int))[j]? = some ((o : Nat) : Int) := by rw [List.getElem?_map, ho]; rfl
                          have hom := (HME.out o).1 (List.mem_of_getElem? ho)
                          have HRC := Lib.hid (HRA.out.step B6.out)
                          obtain ⟨b3, o3, rfl, hb3, e3⟩ := at_int HRC.out hox
                          have HRD := Lib.hid (HAR2.out.step (pstep L3.out.b B6.out))
                          obtain ⟨hoq, hot, hol⟩ := hom
                          by_cases hor : o ∈ T.runN t
                          · have HQ2 : Hid (((o : Nat) : Int) ∈ rowN T t) := Lib.hid (mem_row.2 hor)
                            clear ho hox hot hol hor
                            go_wp2_with fail
                            go_quiet ((go_at_call 16; exact Calls.quiet_of_same (contains_T _ _ (Lib.hid (HRD.out.step (below_drewN (Below.refl _ _) _))) HRL hrlb HQ2)))
                            go_wp2_with fail
                            go_roundw
                            case rel => exact ⟨j + 1, by omega, by go_num, Lib.hid (below_drewN B5.out _)⟩
                            case measure => simp [intOf]; omega
                          · have HQ2 : Hid (¬ ((o : Nat) : Int) ∈ rowN T t) := Lib.hid fun h => absurd (mem_row.1 h) hor
                            have hlev := run_graver HLEV.out HKR.out (o := o) (by rw [HTM.out]; exact ⟨hoq, hot, hol⟩) hor
                            obtain ⟨xo, hxo⟩ : ∃ x, l[o]? = some x := ⟨l[o]'(by rw [hm.out]; exact hoq), List.getElem?_eq_getElem _⟩
                            obtain ⟨xk, hxk⟩ : ∃ x, l[kk]? = some x := ⟨l[kk]'(by rw [hm.out]; exact hkm), List.getElem?_eq_getElem _⟩
                            have hat := HA2.out.step (pstep L3.out.b B6.out)
                            obtain ⟨b4, o4, hae, hb4, -, u1, -⟩ := at_th hat hxo
                            obtain ⟨b5, o5, hae2, -, -, v1, -⟩ := at_th hat hxk
                            rw [hae] at hae2
                            cases hae2
                            subst hae
                            obtain ⟨-, fo, -⟩ := HTT.out o xo hxo
                            obtain ⟨-, fk, -⟩ := HTT.out kk xk hxk
                            rw [fo] at u1
                            rw [fk] at v1
                            obtain ⟨lo, hlo⟩ : ∃ lo, T.lev o = lo := ⟨_, rfl⟩
                            obtain ⟨lk, hlk⟩ : ∃ lk, T.lev kk = lk := ⟨_, rfl⟩
                            rw [hlo] at u1 hlev
                            rw [hlk] at v1 hlev
                            have hdn : ¬ lk < lo := by omega
                            have hd2 : decide (lk < lo) = false := decide_eq_false hdn
                            clear ho hox hot hol hor hat hxo hxk fo fk hlo hlk hlev
                            go_wp2_with fail
                            go_quiet ((go_at_call 16; exact Calls.quiet_of_same (contains_F _ _ (Lib.hid (HRD.out.step (below_drewN (Below.refl _ _) _))) HRL hrlb HQ2)))
                            go_wp2_with fail
                            go_roundw
                            case rel => exact ⟨j + 1, by omega, by go_num, Lib.hid (below_drewN B5.out _)⟩
                            case measure => simp [intOf]; omega
                        · obtain rfl : j = rq := by omega
                          clear hlt3 hj'
                          go_wp2_with fail
                          go_roundw
                          case rel => exact ⟨1, by omega, by go_num, B6⟩
                          case measure => simp [intOf]; omega
                    · obtain ⟨x0, hx0⟩ : ∃ x, (rowN T t)[i - 1]? = some x := ⟨(rowN T t)[i - 1]'(by rw [HRL.out]; omega), List.getElem?_eq_getElem _⟩
                      have hri := row_rise HLEV.out t hx0 (by rw [show i - 1 + 1 = i by omega]; exact hx)
                      obtain ⟨b7, o7, hae, hb7, e7⟩ := at_int HRU.out hx0
                      cases hae
                      have p0 : (0 : Int) < (i : Int) := by omega
                      have p1 : (1 : Int) ≤ (i : Int) := by omega
                      have p2 : (i : Int) - 1 < (rl : Int) := by omega
                      have p3 : ¬ ((kk : Nat) : Int) ≤ x0 := by omega
                      clear hx hkr hx0 hri h0
                      go_wp2_with (first
                        | (go_at_call 16; (with_reducible refine (contains_P _ _ HRB HLL hrqb true HQ1).mono ?_); rintro e w6 ⟨rfl, rfl⟩)
                        | fail)
                      obtain ⟨wp, rfl⟩ : ∃ wp : World, wp = wr := ⟨_, rfl⟩
                      go_loopw [119] (fun v wr => ∃ j : Nat, j ≤ rq ∧ v = .int .i64 j ∧ Hid (Below wp.heap.size wp wr)) (fun v _ => rq - (intOf v).toNat)
                      case atStart => exact ⟨0, Nat.zero_le _, rfl, Lib.hid (Below.refl _ _)⟩
                      case round =>
                        obtain ⟨j, hj', rfl, B5⟩ := hrel
                        have B6 := Lib.hid (pstep B4.out B5.out)
                        by_cases hlt3 : j < rq
                        · obtain ⟨o, ho⟩ : ∃ o, (rdyN T t q)[j]? = some o := ⟨(rdyN T t q)[j]'(by have := HLL.out; rw [List.length_map] at this; omega), List.getElem?_eq_getElem _⟩
                          have hox : ((rdyN T t q).map fun x => ((x : Nat) : Int))[j]? = some ((o : Nat) : Int) := by rw [List.getElem?_map, ho]; rfl
                          have hom := (HME.out o).1 (List.mem_of_getElem? ho)
                          have HRC := Lib.hid (HRA.out.step B6.out)
                          obtain ⟨b3, o3, rfl, hb3, e3⟩ := at_int HRC.out hox
                          have HRD := Lib.hid (HAR2.out.step (pstep L3.out.b B6.out))
                          obtain ⟨hoq, hot, hol⟩ := hom
                          by_cases hor : o ∈ T.runN t
                          · have HQ2 : Hid (((o : Nat) : Int) ∈ rowN T t) := Lib.hid (mem_row.2 hor)
                            clear ho hox hot hol hor
                            go_wp2_with fail
                            go_quiet ((go_at_call 16; exact Calls.quiet_of_same (contains_T _ _ (Lib.hid (HRD.out.step (below_drewN (Below.refl _ _) _))) HRL hrlb HQ2)))
                            go_wp2_with fail
                            go_roundw
                            case rel => exact ⟨j + 1, by omega, by go_num, Lib.hid (below_drewN B5.out _)⟩
                            case measure => simp [intOf]; omega
                          · have HQ2 : Hid (¬ ((o : Nat) : Int) ∈ rowN T t) := Lib.hid fun h => absurd (mem_row.1 h) hor
                            have hlev := run_graver HLEV.out HKR.out (o := o) (by rw [HTM.out]; exact ⟨hoq, hot, hol⟩) hor
                            obtain ⟨xo, hxo⟩ : ∃ x, l[o]? = some x := ⟨l[o]'(by rw [hm.out]; exact hoq), List.getElem?_eq_getElem _⟩
                            obtain ⟨xk, hxk⟩ : ∃ x, l[kk]? = some x := ⟨l[kk]'(by rw [hm.out]; exact hkm), List.getElem?_eq_getElem _⟩
                            have hat := HA2.out.step (pstep L3.out.b B6.out)
                            obtain ⟨b4, o4, hae, hb4, -, u1, -⟩ := at_th hat hxo
                            obtain ⟨b5, o5, hae2, -, -, v1, -⟩ := at_th hat hxk
                            rw [hae] at hae2
                            cases hae2
                            subst hae
                            obtain ⟨-, fo, -⟩ := HTT.out o xo hxo
                            obtain ⟨-, fk, -⟩ := HTT.out kk xk hxk
                            rw [fo] at u1
                            rw [fk] at v1
                            obtain ⟨lo, hlo⟩ : ∃ lo, T.lev o = lo := ⟨_, rfl⟩
                            obtain ⟨lk, hlk⟩ : ∃ lk, T.lev kk = lk := ⟨_, rfl⟩
                            rw [hlo] at u1 hlev
                            rw [hlk] at v1 hlev
                            have hdn : ¬ lk < lo := by omega
                            have hd2 : decide (lk < lo) = false := decide_eq_false hdn
                            clear ho hox hot hol hor hat hxo hxk fo fk hlo hlk hlev
                            go_wp2_with fail
                            go_quiet ((go_at_call 16; exact Calls.quiet_of_same (contains_F _ _ (Lib.hid (HRD.out.step (below_drewN (Below.refl _ _) _))) HRL hrlb HQ2)))
                            go_wp2_with fail
                            go_roundw
                            case rel => exact ⟨j + 1, by omega, by go_num, Lib.hid (below_drewN B5.out _)⟩
                            case measure => simp [intOf]; omega
                        · obtain rfl : j = rq := by omega
                          clear hlt3 hj'
                          go_wp2_with fail
                          go_roundw
                          case rel => exact ⟨i + 1, by omega, by go_num, B6⟩
                          case measure => simp [intOf]; omega
                  · obtain rfl : i = rl := by omega
                    have L4 := Lib.hid ((L3.out.step B4.out).congr (g := lftT T t 0) fun x _ => lftT_zero T t x)
                    clear hlt2 hi'
                    go_wp2_with fail
                    obtain ⟨wp, rfl⟩ : ∃ wp : World, wp = wr := ⟨_, rfl⟩
                    go_loopw [144] (fun v wr => ∃ j : Nat, j ≤ i ∧ v = .int .i64 j ∧ Hid (LpC w2 wr B q (lftT T t j))) (fun v _ => i - (intOf v).toNat)
                    case atStart => exact ⟨0, Nat.zero_le _, rfl, L4⟩
                    case round =>
                      clear L4
                      obtain ⟨j, hj', rfl, L5⟩ := hrel
                      by_cases hlt3 : j < i
                      · obtain ⟨x, hx⟩ : ∃ x, (rowN T t)[j]? = some x := ⟨(rowN T t)[j]'(by rw [HRL.out]; exact hlt3), List.getElem?_eq_getElem _⟩
                        obtain ⟨kk, rfl, _, hkm⟩ := row_mem HLEV.out hx
                        rw [HTM.out] at hkm
                        obtain ⟨b2, o2, rfl, hb2, e2⟩ := at_int (HAR2.out.step L5.out.b) hx
                        have HXX := Lib.hid (lftT_next hx)
                        have c0 := L5.out.r.cell hkm
                        have f0 := L5.out.r.frozen kk
                        have hBl5 := L5.out.r.lt
                        obtain ⟨v, hv⟩ : ∃ v, lftT T t j kk = v := ⟨_, rfl⟩
                        have hvb := HLF.out t j kk hkm (by omega)
                        rw [hv] at c0 hvb
                        obtain ⟨hv0, hv1⟩ := hvb
                        have HV := Lib.hid hv
                        have L6 := Lib.hid (L5.out.put hkm (v - 1))
                        clear hx hv
                        go_wp2_with fail
                        go_roundw
                        case rel => exact ⟨j + 1, by omega, by go_num, Lib.hid (L6.out.congr fun x _ => by rw [HXX.out x, HV.out])⟩
                        case measure => simp [intOf]; omega
                      · obtain rfl : j = i := by omega
                        have L6 := Lib.hid (L5.out.congr (g := fun x => (((T.stN (t + 1)).left x : Nat) : Int)) fun x _ => by
                          have := lftT_end HLEV.out t x
                          rw [HRL.out] at this
                          exact this.symm)
                        clear L5 hlt3 hj'
                        go_wp2_with fail
                        go_roundw
                        case rel => exact ⟨t + 1, by omega, by go_num, L6⟩
                        case measure => simp [intOf]; omega
          · obtain rfl : t = n := by omega
            have HBW := Lib.hid (pstep HB3.out L.out.b)
            clear hlt ht L
            go_wp2_with fail
            go_ret
            exact ⟨by simp, HBW.out⟩
  · have HX : Hid (wrongN c sl l = 2 ∨ wrongN c sl l = 0 ∧ ¬ (0 ≤ tk ∧ tk ≤ 2000)) := Lib.hid (by
      rcases wrong_two c sl l with h | h
      · exact Or.inr ⟨h, fun q => hok ⟨h, q⟩⟩
      · exact Or.inl h)
    clear hok
    go_enter Try.func4, Try.ntmps4
    go_wp2_with (first
      | (go_at_call 15; (with_reducible refine (alive14_N _).mono ?_); rintro e w1 ⟨rfl, hb⟩; have HB1 := Lib.hid hb; have HA1 := Lib.hid (HA.out.step hb); clear hb)
      | (go_at_call 8; (with_reducible refine (run_bad c sl tk _ HA1 hm hm9 HX).mono ?_); rintro e w2 ⟨rfl, hb2⟩; have HB3 := Lib.hid (pstep HB1.out hb2); clear hb2)
      | fail)
    go_ret
    exact ⟨rfl, HB3.out⟩
end Go.Proofs.Ytningajaimbncaa
