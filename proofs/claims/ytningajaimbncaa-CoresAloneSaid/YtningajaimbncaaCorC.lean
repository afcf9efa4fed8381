/- Package cores: the walks of within, Wrong, those. -/
import Derived.Test.YtningajaimbncaaCorB
import Derived.Shelf.Abstract
namespace Go.Proofs.Ytningajaimbncaa
open Go.RowKit

theorem within_C (n a b : Int) (w : World) (q : Bool) (hq : Hid (decide (a ≤ n ∧ n ≤ b) = q)) :
    Calls Try.prog 23 #[.int .i64 n, .int .i64 a, .int .i64 b] w fun e w' => e = .returned (.bool q) ∧ w = w' := by
  by_cases h1 : a ≤ n
  · have hq2 : decide (n ≤ b) = q := by rw [← hq.out]; simp [h1]
    have HQ := Lib.hid hq2
    clear hq2
    go_enter Try.func23, Try.ntmps23
    go_wp2
    go_ret
    exact ⟨by rw [← HQ.out]; simp, rfl⟩
  · have hq2 : false = q := by rw [← hq.out]; simp [h1]
    subst hq2
    go_enter Try.func23, Try.ntmps23
    go_wp2
    go_ret
    exact ⟨rfl, rfl⟩
def thOk (t : ThT) : Bool := decide (0 ≤ t.c ∧ t.c ≤ 10000) && (decide (0 ≤ t.l ∧ t.l ≤ 31) && decide (0 ≤ t.w ∧ t.w ≤ 10000))
def wrongN (c sl : Int) (l : List ThT) : Int := if (decide (1 ≤ c ∧ c ≤ 8) && (decide (1 ≤ sl ∧ sl ≤ 100) && (decide (l.length ≤ 64) && l.all thOk))) = true then 0 else 2
theorem wrong_ok {c sl : Int} {l : List ThT} (h : wrongN c sl l = 0) : ∃ c' sl' : Nat, c = c' ∧ sl = sl' ∧ OkT l c' sl' := by
  unfold wrongN at h
  by_cases hc : (decide (1 ≤ c ∧ c ≤ 8) && (decide (1 ≤ sl ∧ sl ≤ 100) && (decide (l.length ≤ 64) && l.all thOk))) = true
  · simp only [Bool.and_eq_true, decide_eq_true_eq, List.all_eq_true] at hc
    obtain ⟨⟨h1, h2⟩, ⟨h3, h4⟩, h5, h6⟩ := hc
    refine ⟨c.toNat, sl.toNat, by omega, by omega, by omega, by omega, by omega, by omega, h5, fun t ht => ?_⟩
    have := h6 t ht
    unfold thOk at this
    simpa only [Bool.and_eq_true, decide_eq_true_eq] using this
  · rw [if_neg hc] at h
    cases h
theorem ok_wrong {c sl : Nat} {l : List ThT} (h : OkT l c sl) : wrongN c sl l = 0 := by
  unfold wrongN
  rw [if_pos]
  have h1 := h.c1
  have h2 := h.c8
  have h3 := h.s1
  have h4 := h.s2
  simp only [Bool.and_eq_true, decide_eq_true_eq, List.all_eq_true]
  refine ⟨⟨by omega, by omega⟩, ⟨by omega, by omega⟩, h.len, fun t ht => ?_⟩
  have := h.each t ht
  unfold thOk
  simpa only [Bool.and_eq_true, decide_eq_true_eq] using this
theorem all_at {l : List ThT} {k : Nat} {t : ThT} (hk : l[k]? = some t) (h : (l.take k).all thOk = true) (ht : thOk t = true) : (l.take (k + 1)).all thOk = true := by
  have e : l.take (k + 1) = l.take k ++ [t] := by rw [List.take_add_one, hk]; rfl
  rw [e, List.all_append, h]
  simp [ht]
theorem not_all {l : List ThT} {k : Nat} {t : ThT} (hk : l[k]? = some t) (ht : thOk t = false) : l.all thOk = false := by
  rw [List.all_eq_false]
  exact ⟨t, List.mem_of_getElem? hk, by rw [ht]; decide⟩
set_option maxHeartbeats 1000000 in
set_option maxRecDepth 100000 in
theorem wrong_W {ad : Option Addr} {cap n : Nat} {l : List ThT} (c sl : Int) (w : World) (HA : Hid (shT.At w ad cap l)) (hm : Hid (l.length = n)) (hn : n ≤ 9223372036854775807) (x : Int) (hx : Hid (wrongN c sl l = x)) :
    Calls Try.prog 10 #[.int .i64 c, .int .i64 sl, .slice ad n cap] w fun e w' => e = .returned (.int .i64 x) ∧ Below w.heap.size w w' := by
  cases h1 : decide (1 ≤ c ∧ c ≤ 8) with
  | false =>
    have H1 := Lib.hid h1
    have HE : Hid (2 = x) := Lib.hid (by rw [← hx.out, wrongN, h1]; rfl)
    clear h1
    go_enter Try.func10, Try.ntmps10
    go_wp2_with (first
      | (go_at_call 23; (with_reducible refine (within_C c 1 8 _ false H1).mono ?_); rintro e w1 ⟨rfl, rfl⟩)
      | fail)
    go_ret
    exact ⟨by rw [← HE.out]; rfl, Below.refl _ _⟩
  | true =>
    have H1 := Lib.hid h1
    cases h2 : decide (1 ≤ sl ∧ sl ≤ 100) with
    | false =>
      have H2 := Lib.hid h2
      have HE : Hid (2 = x) := Lib.hid (by rw [← hx.out, wrongN, h1, h2]; rfl)
      clear h1 h2
      go_enter Try.func10, Try.ntmps10
      go_wp2_with (first
        | (go_at_call 23; (with_reducible refine (within_C c 1 8 _ true H1).mono ?_); rintro e w1 ⟨rfl, rfl⟩)
        | (go_at_call 23; (with_reducible refine (within_C sl 1 100 _ false H2).mono ?_); rintro e w1 ⟨rfl, rfl⟩)
        | fail)
      go_ret
      exact ⟨by rw [← HE.out]; rfl, Below.refl _ _⟩
    | true =>
      have H2 := Lib.hid h2
      by_cases h3 : n ≤ 64
      · have HE : Hid ((if l.all thOk = true then 0 else 2) = x) := Lib.hid (by rw [← hx.out, wrongN, h1, h2, hm.out, decide_eq_true h3]; simp only [Bool.true_and])
        have g3 : ¬ (64 : Int) < (n : Int) := by omega
        clear h1 h2
        go_enter Try.func10, Try.ntmps10
        go_wp2_with (first
          | (go_at_call 23; (with_reducible refine (within_C c 1 8 _ true H1).mono ?_); rintro e w1 ⟨rfl, rfl⟩)
          | (go_at_call 23; (with_reducible refine (within_C sl 1 100 _ true H2).mono ?_); rintro e w1 ⟨rfl, rfl⟩)
          | fail)
        go_loopw [24] (fun i wr => ∃ k : Nat, k ≤ n ∧ i = .int .i64 k ∧ Below w.heap.size w wr ∧ Hid ((l.take k).all thOk = true)) (fun i _ => n - (intOf i).toNat)
        case atStart => exact ⟨0, Nat.zero_le _, rfl, Below.refl _ _, Lib.hid rfl⟩
        case round =>
          obtain ⟨k, hk, rfl, hb, HK⟩ := hrel
          have HB := Lib.hid hb
          by_cases hlt : k < n
          · obtain ⟨t, ht⟩ : ∃ t, l[k]? = some t := ⟨l[k]'(by rw [hm.out]; exact hlt), List.getElem?_eq_getElem _⟩
            obtain ⟨b, off, rfl, hbl, e0, e1, e2⟩ := at_th HA.out ht
            have g0 := (hb.cell (p := ⟨b, off + k * 3, none⟩) hbl).trans e0
            have g1 := (hb.cell (p := ⟨b, off + k * 3 + 1, none⟩) hbl).trans e1
            have g2 := (hb.cell (p := ⟨b, off + k * 3 + 2, none⟩) hbl).trans e2
            have hbr : b < wr.heap.size := Nat.lt_of_lt_of_le hbl hb.size
            have HT := Lib.hid ht
            obtain ⟨tc, tl, tw⟩ := t
            simp only at g0 g1 g2
            have HBA := Lib.hid (pstep hb (below_alloc wr (.cells #[.int .i64 tc, .int .i64 tl, .int .i64 tw] 35)))
            clear e0 e1 e2 ht hb
            cases q1 : decide (0 ≤ tc ∧ tc ≤ 10000) with
            | false =>
              have Q1 := Lib.hid q1
              have HX : Hid (2 = x) := Lib.hid (by rw [← HE.out, if_neg]; rw [not_all HT.out (by simp only [thOk, q1, Bool.false_and])]; decide)
              clear q1
              go_wp2_with (first
                | (go_at_call 23; (with_reducible refine (within_C tc 0 10000 _ false Q1).mono ?_); rintro e w1 ⟨rfl, rfl⟩)
                | fail)
              go_ret
              exact ⟨by rw [← HX.out]; rfl, HBA.out⟩
            | true =>
              have Q1 := Lib.hid q1
              cases q2 : decide (0 ≤ tl ∧ tl ≤ 31) with
              | false =>
                have Q2 := Lib.hid q2
                have HX : Hid (2 = x) := Lib.hid (by rw [← HE.out, if_neg]; rw [not_all HT.out (by simp only [thOk, q1, q2, Bool.false_and, Bool.true_and])]; decide)
                clear q1 q2
                go_wp2_with (first
                  | (go_at_call 23; (with_reducible refine (within_C tc 0 10000 _ true Q1).mono ?_); rintro e w1 ⟨rfl, rfl⟩)
                  | (go_at_call 23; (with_reducible refine (within_C tl 0 31 _ false Q2).mono ?_); rintro e w1 ⟨rfl, rfl⟩)
                  | fail)
                go_ret
                exact ⟨by rw [← HX.out]; rfl, HBA.out⟩
              | true =>
                have Q2 := Lib.hid q2
                cases q3 : decide (0 ≤ tw ∧ tw ≤ 10000) with
                | false =>
                  have Q3 := Lib.hid q3
                  have HX : Hid (2 = x) := Lib.hid (by rw [← HE.out, if_neg]; rw [not_all HT.out (by simp only [thOk, q1, q2, q3, Bool.true_and])]; decide)
                  clear q1 q2 q3
                  go_wp2_with (first
                    | (go_at_call 23; (with_reducible refine (within_C tc 0 10000 _ true Q1).mono ?_); rintro e w1 ⟨rfl, rfl⟩)
                    | (go_at_call 23; (with_reducible refine (within_C tl 0 31 _ true Q2).mono ?_); rintro e w1 ⟨rfl, rfl⟩)
                    | (go_at_call 23; (with_reducible refine (within_C tw 0 10000 _ false Q3).mono ?_); rintro e w1 ⟨rfl, rfl⟩)
                    | fail)
                  go_ret
                  exact ⟨by rw [← HX.out]; rfl, HBA.out⟩
                | true =>
                  have Q3 := Lib.hid q3
                  have HN : Hid ((l.take (k + 1)).all thOk = true) := Lib.hid (all_at HT.out HK.out (by simp only [thOk, q1, q2, q3, Bool.true_and]))
                  clear q1 q2 q3
                  go_wp2_with (first
                    | (go_at_call 23; (with_reducible refine (within_C tc 0 10000 _ true Q1).mono ?_); rintro e w1 ⟨rfl, rfl⟩)
                    | (go_at_call 23; (with_reducible refine (within_C tl 0 31 _ true Q2).mono ?_); rintro e w1 ⟨rfl, rfl⟩)
                    | (go_at_call 23; (with_reducible refine (within_C tw 0 10000 _ true Q3).mono ?_); rintro e w1 ⟨rfl, rfl⟩)
                    | fail)
                  go_roundw
                  case rel => exact ⟨k + 1, by omega, by go_num, HBA.out, HN⟩
                  case measure => simp [intOf]; omega
          · obtain rfl : k = n := by omega
            have HX : Hid (0 = x) := Lib.hid (by
              have := HK.out
              rw [← hm.out, List.take_length] at this
              rw [← HE.out, if_pos this])
            clear hlt hk hb
            go_wp2_with fail
            go_ret
            exact ⟨by rw [← HX.out]; rfl, HB.out⟩
      · have HE : Hid (2 = x) := Lib.hid (by rw [← hx.out, wrongN, h1, h2, hm.out, decide_eq_false h3]; rfl)
        have g3 : (64 : Int) < (n : Int) := by omega
        clear h1 h2
        go_enter Try.func10, Try.ntmps10
        go_wp2_with (first
          | (go_at_call 23; (with_reducible refine (within_C c 1 8 _ true H1).mono ?_); rintro e w1 ⟨rfl, rfl⟩)
          | (go_at_call 23; (with_reducible refine (within_C sl 1 100 _ true H2).mono ?_); rintro e w1 ⟨rfl, rfl⟩)
          | fail)
        go_ret
        exact ⟨by rw [← HE.out]; rfl, Below.refl _ _⟩
theorem ptr_one (X : World) (b cap : Nat) : shP.At (X.alloc (.cells #[.pointer (some ⟨b, 0, none⟩)] 58)) (some ⟨X.heap.size, 0, none⟩) cap [b] :=
  Shape.At.lit (S := shP) [b] (heap_alloc_new X _)
theorem filter_next {q : List Nat} {k x : Nat} (p : Nat → Bool) (hx : q[k]? = some x) : (q.take (k + 1)).filter p = (q.take k).filter p ++ if p x = true then [x] else [] := by
  rw [List.take_add_one, hx, List.filter_append]
  congr 1
  by_cases h : p x = true
  · rw [if_pos h]; simp [h]
  · rw [if_neg h]; simp [h]
set_option maxHeartbeats 1000000 in
set_option maxRecDepth 100000 in
/-- Those that are as asked, whatever the question, in memory of their own. -/
theorem those_W {ad : Option Addr} {cap n : Nat} {q : List Nat} {P : Nat → Nat} (p : Nat → Bool) (g : Nat) (lb : Array Value) (eg : ∀ args w, (callFunc g args).run Try.prog w = .ok (.enter g args) w) (w : World) (HA : Hid (shP.At w ad cap (q.map P))) (hm : Hid (q.length = n)) (hn : n ≤ 64)
    (HC : Hid (∀ k, k ∈ q → ∀ W, Below w.heap.size w W → Calls Try.prog g (#[.pointer (some ⟨P k, 0, none⟩)] ++ lb) W fun e w' => e = .returned (.bool (p k)) ∧ ∃ j, w' = W.drewN j)) :
    Calls Try.prog 35 #[.slice ad n cap, .func (.func g) #[] lb] w fun e w' => ∃ v, e = .returned v ∧ w'.ownsRow w.heap.size 58 1 v (q.filter p).length (shP.flat ((q.filter p).map P)) ∧ Below w.heap.size w w' := by
  obtain ⟨i0, hi, hz0, hz1, hz2⟩ := info_parts' info_ptr
  go_enter Try.func35, Try.ntmps35
  go_wp2_with fail
  go_loopw [5, 10] (fun x i wr => ∃ k : Nat, k ≤ n ∧ i = .int .i64 k ∧ Below w.heap.size w wr ∧ wr.ownsRow w.heap.size 58 1 x ((q.take k).filter p).length (shP.flat (((q.take k).filter p).map P))) (fun _ i _ => n - (intOf i).toNat)
  case atStart => exact ⟨0, Nat.zero_le _, rfl, Below.refl _ _, World.ownsRow_nil _ _ _ _⟩
  case round =>
    obtain ⟨k, hk, rfl, hb, ho⟩ := hrel
    have HB := Lib.hid hb
    have HO := Lib.hid ho
    by_cases hlt : k < n
    · obtain ⟨t, ht⟩ : ∃ t, q[k]? = some t := ⟨q[k]'(by rw [hm.out]; exact hlt), List.getElem?_eq_getElem _⟩
      have htm : (q.map P)[k]? = some (P t) := by rw [List.getElem?_map, ht]; rfl
      obtain ⟨b, off, rfl, hbl, e0⟩ := at_ptr HA.out htm
      have g0 := (hb.cell (p := ⟨b, off + k, none⟩) hbl).trans e0
      have HF := Lib.hid (filter_next p ht)
      have hcall := HC.out t (List.mem_of_getElem? ht) wr hb
      have hle : ((q.take k).filter p).length ≤ 64 := Nat.le_trans (List.length_filter_le _ _) (by rw [List.length_take]; omega)
      clear e0 ht htm hb ho
      cases hp : p t with
      | false =>
        rw [hp] at hcall
        have HP := Lib.hid hp
        clear hp
        go_wp2_with (go_at_fn g; refine hcall.mono ?_; rintro e w' ⟨rfl, qq, rfl⟩)
        go_roundw
        case rel => exact ⟨k + 1, by omega, by go_num, below_drewN HB.out _, by
          rw [HF.out, HP.out, if_neg (by decide), List.append_nil]
          exact own_step HO.out (below_drewN (Below.refl _ _) _)⟩
        case measure => simp [intOf]; omega
      | true =>
        rw [hp] at hcall
        have HP := Lib.hid hp
        clear hp
        obtain ⟨F, hF⟩ : ∃ F, (q.take k).filter p = F := ⟨_, rfl⟩
        rw [hF] at HO HF hle
        clear hF
        have HFL : Hid ((F.map P).length = F.length) := Lib.hid (List.length_map _)
        have hsz : w.heap.size ≤ wr.heap.size := HB.out.size
        obtain ⟨sa, sc, rfl, _⟩ := own_shape HO.out
        go_wp2_with (first
          | (go_at_fn g; refine hcall.mono ?_; rintro e w' ⟨rfl, qq, rfl⟩; have HO1 := Lib.hid (own_step HO.out (below_drewN (Below.refl _ _) qq)); have HB1 := Lib.hid (below_drewN HB.out qq); have hsz1 := HB1.out.size; generalize wr.drewN qq = w1 at HO1 HB1 hsz1 ⊢; have HO2 := Lib.hid (own_step HO1.out (below_alloc w1 (.cells #[.pointer (some ⟨P t, 0, none⟩)] 58))); have N2 := Lib.hid (ptr_one w1 (P t) 1))
          | (at_builtin; refine wpList_append_n shP rfl _ _ 46 rfl w.heap.size 58 i0 _ 8 Try.underlying46 hi hz0 hz1 hz2 rfl (.slice sa F.length sc) F.length (F.map P) [P t] HFL rfl HO2.out (some ⟨w1.heap.size, 0, none⟩) 1 1 rfl (Lib.hid rfl) N2.out (by unfold maxLen; omega) (by omega) (by simp; omega) ?_; intro ra rc w3 own3 grow3 _; have HB3 := Lib.hid ((pstep HB1.out (below_alloc w1 (.cells #[.pointer (some ⟨P t, 0, none⟩)] 58))).grown grow3 (by simp; omega) (fun j hj => (own_lt HO2.out hj).1)); have HO3 := Lib.hid own3; clear own3 grow3)
          | fail)
        go_roundw
        case rel => exact ⟨k + 1, by omega, by go_num, HB3.out, by
          rw [HF.out, HP.out, if_pos rfl, List.map_append, List.length_append]
          exact HO3.out⟩
        case measure => simp [intOf]; omega
    · obtain rfl : k = n := by omega
      have e : q.take k = q := by rw [← hm.out, List.take_length]
      rw [e] at HO
      clear hlt hk hb ho
      go_wp2_with fail
      go_ret
      exact ⟨_, rfl, HO.out, HB.out⟩
end Go.Proofs.Ytningajaimbncaa
