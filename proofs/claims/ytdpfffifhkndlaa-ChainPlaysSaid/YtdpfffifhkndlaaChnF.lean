/- Package chain: the walk of corebellref.IServe. -/
import Derived.Test.YtdpfffifhkndlaaChnD
import Derived.RegionTactic
namespace Go.Proofs.Ytdpfffifhkndlaa
open Go.RowKit

theorem own_apart {w : World} {base base' e e' size size' n n' : Nat} {v v' : Value} {xs xs' : List Value} (h : w.ownsRow base e size v n xs) (h' : w.ownsRow base' e' size' v' n' xs') (hne : ¬ e' = e) : ∀ g, v.ownBlock = some g → v'.ownBlock = some g → False := by
  intro g hg hg'
  obtain ⟨_, h2⟩ := h'
  rcases h2 with ⟨rfl, _⟩ | ⟨g', cap, cur, hv, _, hh, _⟩
  · cases hg'
  · rw [hv] at hg'
    simp only [Value.ownBlock, Option.some.injEq] at hg'
    subst hg'
    exact own_ne h hh hne _ hg rfl
/-- Handlers and wakes so far, each in a row of the call's own. -/
structure LpS (M : Nat) (w wx : World) (vo : Value) (n : Nat) (xs : List HdT) (vw : Value) (m : Nat) (ws : List Int) : Prop where
  b : Below M w wx
  out : wx.ownsRow M 32 2 vo n (shH.flat xs)
  wk : wx.ownsRow M 3 1 vw m (shI.flat ws)
  s : M ≤ wx.heap.size
section
variable {M : Nat} {w wx wy : World} {vo vw vo' vw' : Value} {n m n' m' b : Nat} {xs xs' : List HdT} {ws ws' : List Int}
theorem LpS.step (h : LpS M w wx vo n xs vw m ws) (hb : Below wx.heap.size wx wy) : LpS M w wy vo n xs vw m ws :=
  ⟨h.b.trans (hb.mono h.s), own_step h.out hb, own_step h.wk hb, Nat.le_trans h.s hb.size⟩
theorem LpS.appW (h : LpS M w wx vo n xs vw m ws) (hg : wx.grownBy wy vw.ownBlock) (ho : wy.ownsRow M 3 1 vw' m' (shI.flat ws')) : LpS M w wy vo n xs vw' m' ws' :=
  ⟨h.b.grown hg h.s (fun g e => (own_lt h.wk e).1), own_heap h.out (fun g o e ho => (hg.block g (heap_lt ho) (fun e2 => own_apart h.out h.wk (by decide) g e e2.symm)).trans ho), ho, Nat.le_trans h.s hg.size⟩
theorem LpS.appO (h : LpS M w wx vo n xs vw m ws) (hg : wx.grownBy wy vo.ownBlock) (ho : wy.ownsRow M 32 2 vo' n' (shH.flat xs')) : LpS M w wy vo' n' xs' vw m ws :=
  ⟨h.b.grown hg h.s (fun g e => (own_lt h.out e).1), ho, own_heap h.wk (fun g o e ho => (hg.block g (heap_lt ho) (fun e2 => own_apart h.wk h.out (by decide) g e e2.symm)).trans ho), Nat.le_trans h.s hg.size⟩
theorem LpS.set (h : LpS M w wx vo n xs vw m ws) {b t : Nat} {cs : Array Value} {fr : Nat × Nat} (hb : wx.heap[b]? = some (.cells cs t fr)) (ht : ¬ t = 3) (hM : M ≤ b) (hn : ∀ g, vo.ownBlock = some g → g ≠ b) (i : Nat) (v : Value) : LpS M w (wx.setCell ⟨b, i, none⟩ v) vo n xs vw m ws :=
  ⟨h.b.setCell hM _, own_set h.out hn _, own_set h.wk (own_ne h.wk hb ht) _, by simpa using h.s⟩
/-- A block that was there and that neither row is. -/
theorem LpS.kept {o : Obj} (h : LpS M w wx vo n xs vw m ws) (ho : w.heap[b]? = some o) (hb : b < M) : wx.heap[b]? = some o := (h.b.block b hb).trans ho
end
/-- What IServe answers where nothing speaks against it. -/
def IServeOut (w : World) (n : Nat) (l : List HdT) (c m' : Int) (o' : Bool) (e : Ending) (w' : World) : Prop :=
  ∃ ra rc wa wc, e = .returned (.tuple #[.slice ra n rc, .slice wa (wakI 0 0 l).length wc, .agg #[.int .i64 (c + 1), .int .i64 m', .bool o'], .int .i64 0]) ∧ shH.At w' ra rc (l.map (decN 1)) ∧ shI.At w' wa wc (intL (wakI 0 0 l)) ∧ Below w.heap.size w w'
theorem errI_bad {c m : Int} {o : Bool} (ht : tOk c m o = false) : c < 0 ∨ (0 ≤ c ∧ 1099511627776 < c) ∨ ((0 ≤ c ∧ c ≤ 1099511627776) ∧ m < 0) ∨ ((0 ≤ c ∧ c ≤ 1099511627776) ∧ 0 ≤ m ∧ 5 < m) ∨ ((0 ≤ c ∧ c ≤ 1099511627776) ∧ (0 ≤ m ∧ m ≤ 5) ∧ ((m == 5) != o) = true) := by
  by_cases h1 : 0 ≤ c ∧ c ≤ 1099511627776
  · by_cases h2 : 0 ≤ m ∧ m ≤ 5
    · refine Or.inr (Or.inr (Or.inr (Or.inr ⟨h1, h2, ?_⟩)))
      unfold tOk at ht
      rw [decide_eq_true h1, decide_eq_true h2] at ht
      cases o <;> cases e : (m == 5) <;> simp [e] at ht ⊢
    · omega
  · omega
set_option maxHeartbeats 2000000 in
set_option maxRecDepth 100000 in
theorem iserve_err {ad : Option Addr} {cap n : Nat} {l : List HdT} (c m : Int) (o : Bool) (w : World) (HA : Hid (shH.At w ad cap l)) (hm : Hid (l.length = n)) (hn : n ≤ 9223372036854775807) (x : Int) (hx : Hid (errI l c m o = x)) (hx0 : (x != 0) = true) :
    Calls Try.prog 9 #[.slice ad n cap, .agg #[.int .i64 c, .int .i64 m, .bool o]] w fun e w' => e = .returned (.tuple #[.slice none 0 0, .slice none 0 0, .agg #[.int .i64 0, .int .i64 0, .bool false], .int .i64 x]) ∧ Below w.heap.size w w' := by
  have S0 := Lib.hid (bs_new w c m o)
  have HA0 := Lib.hid (HA.out.step S0.out.b)
  cases hr : decide (RtI l) with
  | false =>
    have HR := Lib.hid hr
    obtain rfl : x = 1 := by rw [← hx.out, errI, if_pos (Or.inl hr)]
    clear hr hx0
    go_enter Try.func9, Try.ntmps9
    go_wp2_with (first
      | (go_at_call 11; (with_reducible refine (iright_N _ HA0 hm hn).mono ?_); rintro e w1 ⟨hq, hb⟩; have he := retB_dec hq HR.out; subst he; have S1 := Lib.hid (S0.out.step hb); have G1 := S1.out.cells; clear hb hq)
      | fail)
    refine bodyPost_ret (results_tmp2_row_tmp1 rfl _ _ (w.heap.size + 1) 24 #[.int .i64 0, .int .i64 0, .bool false] (0, 0) _ rfl (tal_stored S1.out.z) Try.underlying24 rfl size_tally) rfl ⟨rfl, set3_below _ _ _ S1.out.b (by omega)⟩
  | true =>
    have HR := Lib.hid hr
    cases ht : tOk c m o with
    | false =>
      obtain rfl : x = 1 := by rw [← hx.out, errI, if_pos (Or.inr ht)]
      have hb := errI_bad ht
      clear hr ht hx0
      rcases hb with q1 | ⟨q1, q2⟩ | ⟨⟨q1, q2⟩, q3⟩ | ⟨⟨q1, q2⟩, q3, q4⟩ | ⟨⟨q1, q2⟩, ⟨q3, q4⟩, q5⟩
      · have d1 : decide (c < 0) = true := decide_eq_true q1
        go_enter Try.func9, Try.ntmps9
        go_wp2_with (first
          | (go_at_call 11; (with_reducible refine (iright_N _ HA0 hm hn).mono ?_); rintro e w1 ⟨hq, hb⟩; have he := retB_dec hq HR.out; subst he; have S1 := Lib.hid (S0.out.step hb); have G1 := S1.out.cells; clear hb hq)
          | fail)
        refine bodyPost_ret (results_tmp2_row_tmp1 rfl _ _ (w.heap.size + 1) 24 #[.int .i64 0, .int .i64 0, .bool false] (0, 0) _ rfl (tal_stored S1.out.z) Try.underlying24 rfl size_tally) rfl ⟨rfl, set3_below _ _ _ S1.out.b (by omega)⟩
      · have d1 : decide (c < 0) = false := decide_eq_false (by omega)
        have d2 : decide (1099511627776 < c) = true := decide_eq_true q2
        go_enter Try.func9, Try.ntmps9
        go_wp2_with (first
          | (go_at_call 11; (with_reducible refine (iright_N _ HA0 hm hn).mono ?_); rintro e w1 ⟨hq, hb⟩; have he := retB_dec hq HR.out; subst he; have S1 := Lib.hid (S0.out.step hb); have G1 := S1.out.cells; clear hb hq)
          | fail)
        refine bodyPost_ret (results_tmp2_row_tmp1 rfl _ _ (w.heap.size + 1) 24 #[.int .i64 0, .int .i64 0, .bool false] (0, 0) _ rfl (tal_stored S1.out.z) Try.underlying24 rfl size_tally) rfl ⟨rfl, set3_below _ _ _ S1.out.b (by omega)⟩
      · have d1 : decide (c < 0) = false := decide_eq_false (by omega)
        have d2 : decide (1099511627776 < c) = false := decide_eq_false (by omega)
        have d3 : decide (m < 0) = true := decide_eq_true q3
        go_enter Try.func9, Try.ntmps9
        go_wp2_with (first
          | (go_at_call 11; (with_reducible refine (iright_N _ HA0 hm hn).mono ?_); rintro e w1 ⟨hq, hb⟩; have he := retB_dec hq HR.out; subst he; have S1 := Lib.hid (S0.out.step hb); have G1 := S1.out.cells; clear hb hq)
          | fail)
        refine bodyPost_ret (results_tmp2_row_tmp1 rfl _ _ (w.heap.size + 1) 24 #[.int .i64 0, .int .i64 0, .bool false] (0, 0) _ rfl (tal_stored S1.out.z) Try.underlying24 rfl size_tally) rfl ⟨rfl, set3_below _ _ _ S1.out.b (by omega)⟩
      · have d1 : decide (c < 0) = false := decide_eq_false (by omega)
        have d2 : decide (1099511627776 < c) = false := decide_eq_false (by omega)
        have d3 : decide (m < 0) = false := decide_eq_false (by omega)
        have d4 : decide (5 < m) = true := decide_eq_true q4
        go_enter Try.func9, Try.ntmps9
        go_wp2_with (first
          | (go_at_call 11; (with_reducible refine (iright_N _ HA0 hm hn).mono ?_); rintro e w1 ⟨hq, hb⟩; have he := retB_dec hq HR.out; subst he; have S1 := Lib.hid (S0.out.step hb); have G1 := S1.out.cells; clear hb hq)
          | fail)
        refine bodyPost_ret (results_tmp2_row_tmp1 rfl _ _ (w.heap.size + 1) 24 #[.int .i64 0, .int .i64 0, .bool false] (0, 0) _ rfl (tal_stored S1.out.z) Try.underlying24 rfl size_tally) rfl ⟨rfl, set3_below _ _ _ S1.out.b (by omega)⟩
      · have d1 : decide (c < 0) = false := decide_eq_false (by omega)
        have d2 : decide (1099511627776 < c) = false := decide_eq_false (by omega)
        have d3 : decide (m < 0) = false := decide_eq_false (by omega)
        have d4 : decide (5 < m) = false := decide_eq_false (by omega)
        have hm5 : (m == 5) = !o := by cases o <;> cases e : (m == 5) <;> simp [e] at q5 ⊢
        clear q5 hx
        cases o
        all_goals simp only [Bool.not_false, Bool.not_true] at hm5
        all_goals go_enter Try.func9, Try.ntmps9
        all_goals go_wp2_with (first
          | (go_at_call 11; (with_reducible refine (iright_N _ HA0 hm hn).mono ?_); rintro e w1 ⟨hq, hb⟩; have he := retB_dec hq HR.out; subst he; have S1 := Lib.hid (S0.out.step hb); have G1 := S1.out.cells; clear hb hq)
          | fail)
        all_goals refine bodyPost_ret (results_tmp2_row_tmp1 rfl _ _ (w.heap.size + 1) 24 #[.int .i64 0, .int .i64 0, .bool false] (0, 0) _ rfl (tal_stored S1.out.z) Try.underlying24 rfl size_tally) rfl ⟨rfl, set3_below _ _ _ S1.out.b (by omega)⟩
    | true =>
      obtain ⟨⟨q1, q2⟩, ⟨q3, q4⟩, q5⟩ := tOk_parts ht
      have HE : Hid ((if o = true then 7 else if c = 1099511627776 then 4 else 0) = x) := Lib.hid (by rw [← hx.out, errI, if_neg (show ¬ (decide (RtI l) = false ∨ tOk c m o = false) by rw [hr, ht]; simp)])
      have d1 : decide (c < 0) = false := decide_eq_false (by omega)
      have d2 : decide (1099511627776 < c) = false := decide_eq_false (by omega)
      have d3 : decide (m < 0) = false := decide_eq_false (by omega)
      have d4 : decide (5 < m) = false := decide_eq_false (by omega)
      have hm5 : (m == 5) = o := by rw [Bool.eq_iff_iff, q5]; simp
      clear hr ht q5
      cases o with
      | true =>
        obtain rfl : x = 7 := by rw [← HE.out]; rfl
        go_enter Try.func9, Try.ntmps9
        go_wp2_with (first
          | (go_at_call 11; (with_reducible refine (iright_N _ HA0 hm hn).mono ?_); rintro e w1 ⟨hq, hb⟩; have he := retB_dec hq HR.out; subst he; have S1 := Lib.hid (S0.out.step hb); have G1 := S1.out.cells; clear hb hq)
          | fail)
        refine bodyPost_ret (results_tmp2_row_tmp1 rfl _ _ (w.heap.size + 1) 24 #[.int .i64 0, .int .i64 0, .bool false] (0, 0) _ rfl (tal_stored S1.out.z) Try.underlying24 rfl size_tally) rfl ⟨rfl, set3_below _ _ _ S1.out.b (by omega)⟩
      | false =>
        have hc : c = 1099511627776 := by
          by_cases hc : c = 1099511627776
          · exact hc
          · have := HE.out
            rw [if_neg (show ¬ (false = true) by decide), if_neg hc] at this
            subst this
            cases hx0
        subst hc
        obtain rfl : x = 4 := by rw [← HE.out]; rfl
        go_enter Try.func9, Try.ntmps9
        go_wp2_with (first
          | (go_at_call 11; (with_reducible refine (iright_N _ HA0 hm hn).mono ?_); rintro e w1 ⟨hq, hb⟩; have he := retB_dec hq HR.out; subst he; have S1 := Lib.hid (S0.out.step hb); have G1 := S1.out.cells; clear hb hq)
          | fail)
        refine bodyPost_ret (results_tmp2_row_tmp1 rfl _ _ (w.heap.size + 1) 24 #[.int .i64 0, .int .i64 0, .bool false] (0, 0) _ rfl (tal_stored S1.out.z) Try.underlying24 rfl size_tally) rfl ⟨rfl, set3_below _ _ _ S1.out.b (by omega)⟩
theorem take_map {l : List HdT} {k : Nat} {f : HdT} (hf : l[k]? = some f) : (l.map (decN 1)).take (k + 1) = (l.map (decN 1)).take k ++ [decN 1 f] :=
  take_next (by rw [List.getElem?_map, hf]; rfl)
theorem hd_lit (X : World) (x y : Int) (cap : Nat) : shH.At (X.alloc (.cells #[.int .i64 x, .int .i64 y] 32)) (some ⟨X.heap.size, 0, none⟩) cap [⟨x, y⟩] :=
  Shape.At.lit (S := shH) [⟨x, y⟩] (heap_alloc_new X _)
theorem iserve_end {M : Nat} {w w1 wr : World} {ra wa : Option Addr} {rc wc n : Nat} {l : List HdT} {c m nn : Int} {o : Bool} (hl : l.length = n) (h : LpS M w1 wr (.slice ra n rc) n (l.map (decN 1)) (.slice wa (wakI 0 0 l).length wc) (wakI 0 0 l).length (intL (wakI 0 0 l))) (s : Bs w wr c m o) :
    IServeOut w n l c nn (nn == 5) (.returned (.tuple #[.slice ra n rc, .slice wa (wakI 0 0 l).length wc, .agg #[.int .i64 (c + 1), .int .i64 nn, .bool (nn == 5)], .int .i64 0])) (((wr.drew.setCell ⟨w.heap.size + 1, 0, none⟩ (.int .i64 (c + 1))).setCell ⟨w.heap.size + 1, 1, none⟩ (.int .i64 nn)).setCell ⟨w.heap.size + 1, 2, none⟩ (.bool (nn == 5))) := by
  have h' := h.step (Below.refl _ wr).drew
  have s' := s.step (Below.refl _ wr).drew
  have n0 := own_ne h'.out s'.z (by decide)
  have n1 := own_ne h'.wk s'.z (by decide)
  exact ⟨ra, rc, wa, wc, rfl, Shape.At.own (S := shH) (own_set (own_set (own_set h'.out n0 _) n0 _) n0 _) (by rw [List.length_map]; exact hl), Shape.At.own (S := shI) (own_set (own_set (own_set h'.wk n1 _) n1 _) n1 _) (intL_len _), set3_below _ _ _ s'.b (by omega)⟩
set_option maxHeartbeats 4000000 in
set_option maxRecDepth 100000 in
theorem iserve_ok {ad : Option Addr} {cap n : Nat} {l : List HdT} (c m : Int) (o : Bool) (w : World) (HA : Hid (shH.At w ad cap l)) (hm : Hid (l.length = n)) (hx : Hid (errI l c m o = 0)) (m' : Int) (o' : Bool) (H1 : Hid (nobI m (decide (0 < mostI l)) = m')) (H2 : Hid ((m' == 5) = o')) :
    Calls Try.prog 9 #[.slice ad n cap, .agg #[.int .i64 c, .int .i64 m, .bool o]] w (IServeOut w n l c m' o') := by
  have S0 := Lib.hid (bs_new w c m o)
  have HA0 := Lib.hid (HA.out.step S0.out.b)
  obtain ⟨hr, hc0, hc1, hm0, hm1, rfl⟩ := errI_zero hx.out
  have hn16 : n ≤ 16 := by rw [← hm.out]; exact hr.1
  have hn : n ≤ 9223372036854775807 := by omega
  have HRT := Lib.hid hr
  have HR : Hid (decide (RtI l) = true) := Lib.hid (decide_eq_true hr)
  have d1 : decide (c < 0) = false := decide_eq_false (by omega)
  have d2 : decide (1099511627776 < c) = false := decide_eq_false (by omega)
  have d3 : decide (m < 0) = false := decide_eq_false (by omega)
  have d4 : decide (5 < m) = false := decide_eq_false (by omega)
  have d5 : (m == 5) = false := by simp; omega
  have d6 : decide (1099511627776 ≤ c) = false := decide_eq_false (by omega)
  clear hr hx
  obtain ⟨i0, hi, hz0, hz1, hz2⟩ := info_parts' info_int
  obtain ⟨i1, hi1, hy0, hy1, hy2⟩ := info_parts' info_handler
  go_enter Try.func9, Try.ntmps9
  go_wp2_with (first
    | (go_at_call 11; (with_reducible refine (iright_N _ HA0 hm hn).mono ?_); rintro e w1 ⟨hq, hb⟩; have he := retB_dec hq HR.out; subst he; have S1 := Lib.hid (S0.out.step hb); have G1 := S1.out.cells; have G2 := (S1.out.step (below_alloc w1 (.cells #[] 32))).cells; have HA1 := Lib.hid (HA0.out.step hb); clear hb hq)
    | fail)
  have A2 := Lib.hid (below_alloc w1 (.cells #[] 32))
  have L2 : Hid (LpS w1.heap.size w1 (w1.alloc (.cells #[] 32)) (.slice (some ⟨w1.heap.size, 0, none⟩) 0 0) 0 [] (.slice none 0 0) 0 []) := Lib.hid ⟨below_alloc _ _, World.ownsRow_made w1 #[] 0 (Nat.le_refl _) (by decide) rfl, World.ownsRow_nil _ _ _ _, by simp⟩
  go_loopw [8, 9, 10, 58] (fun vo vw nb i wr => ∃ (k ms wc rc : Nat) (wa ra : Option Addr) (nn : Int), k ≤ n ∧ i = .int .i64 k ∧ vo = .slice ra k rc ∧ vw = .slice wa ms wc ∧ nb = .int .i64 nn ∧ Hid (nn = nobI m (decide (0 < mostI (l.take k)))) ∧ Hid ((intL (wakI 0 0 (l.take k))).length = ms) ∧ Hid (LpS w1.heap.size w1 wr (.slice ra k rc) k ((l.map (decN 1)).take k) (.slice wa ms wc) ms (intL (wakI 0 0 (l.take k))))) (fun _ _ _ i _ => n - (intOf i).toNat)
  case atStart => exact ⟨0, 0, 0, 0, none, _, _, Nat.zero_le _, rfl, rfl, rfl, rfl, Lib.hid (by simp [mostI, nobI]), Lib.hid rfl, L2⟩
  case round =>
    obtain ⟨k, ms, wc, rc, wa, ra, nn, hk, rfl, rfl, rfl, rfl, HN, HM, HL⟩ := hrel
    by_cases hlt : k < n
    · obtain ⟨f, hf⟩ : ∃ f, l[k]? = some f := ⟨l[k]'(by rw [hm.out]; exact hlt), List.getElem?_eq_getElem _⟩
      obtain ⟨b, off, rfl, hb, c0, c1⟩ := at_hd ((HA1.out.step (HL.out.b)))  hf
      obtain ⟨hs, h0, hM⟩ := rt_at HRT.out hf
      have HF := Lib.hid hf
      have hms : ms ≤ 16 := by
        have h1 := wak_le 0 0 (l.take k)
        have h2 := HM.out
        rw [intL_len] at h2
        have h3 : (l.take k).length ≤ l.length := by rw [List.length_take]; omega
        have := hm.out
        omega
      have HMO : Hid (((l.map (decN 1)).take k).length = k) := Lib.hid (take_len (f := decN 1 f) (by rw [List.getElem?_map, hf]; rfl))
      by_cases hl0 : f.left = 0
      · have HN1 : Hid (nn = nobI m (decide (0 < mostI (l.take (k + 1))))) := Lib.hid (by
          rw [HN.out, most_next hf]
          have := most_nonneg (l.take k)
          congr 1
          simp only [decide_eq_decide]
          omega)
        have HM1 : Hid ((intL (wakI 0 0 (l.take (k + 1)))).length = ms) := Lib.hid (by rw [wak_no hf (by omega)]; exact HM.out)
        have HW1 : Hid (intL (wakI 0 0 (l.take (k + 1))) = intL (wakI 0 0 (l.take k))) := Lib.hid (by rw [wak_no hf (by omega)])
        have HT : Hid ((l.map (decN 1)).take k ++ [f] = (l.map (decN 1)).take (k + 1)) := Lib.hid (by rw [take_map hf, dec_none hl0])
        obtain ⟨x, y⟩ := f
        simp only at hl0 c0 c1
        subst hl0
        have LA := Lib.hid ((HL.out.step (below_alloc wr (.cells #[.int .i64 x, .int .i64 0] 32))).step (below_alloc _ (.cells #[.int .i64 x, .int .i64 0] 32)))
        have HK := Lib.hid (hd_lit (wr.alloc (.cells #[.int .i64 x, .int .i64 0] 32)) x 0 1)
        simp only [World.size_alloc] at HK
        clear hf h0 hM hs
        go_wp2_with (first
          | (at_builtin; refine wpList_append_n shH rfl _ _ 22 rfl w1.heap.size 32 i1 _ 16 Try.underlying22 hi1 hy0 hy1 hy2 rfl (.slice ra k rc) k ((l.map (decN 1)).take k) _ HMO rfl LA.out.out (some ⟨wr.heap.size + 1, 0, none⟩) 1 1 rfl (Lib.hid rfl) HK.out (by unfold maxLen; omega) (by omega) LA.out.s ?_)
          | fail)
        intro ra6 rc6 w6 own6 grow6 _
        rw [HT.out] at own6
        have L6 := Lib.hid (LA.out.appO grow6 own6)
        rw [← HW1.out] at L6
        clear own6 grow6 LA HK
        go_wp2_with fail
        go_roundw
        case rel => exact ⟨k + 1, ms, wc, rc6, wa, ra6, nn, by omega, by go_num, rfl, rfl, rfl, HN1, HM1, L6⟩
        case measure => simp [intOf]; omega
      · have hp : 0 < f.left := by omega
        have HN1 : Hid (0 = nobI m (decide (0 < mostI (l.take (k + 1))))) := Lib.hid (by
          rw [most_next hf, decide_eq_true (by omega)]; rfl)
        have HT : Hid ((l.map (decN 1)).take k ++ [⟨f.says, f.left - 1⟩] = (l.map (decN 1)).take (k + 1)) := Lib.hid (by rw [take_map hf, dec_one hp])
        by_cases hx2 : f.says = 2
        · have HM1 : Hid ((intL (wakI 0 0 (l.take (k + 1)))).length = ms + 1) := Lib.hid (by rw [wak_yes hf ⟨by simpa using hp, hx2⟩, intL_app, List.length_append, HM.out]; rfl)
          have HW1 : Hid (intL (wakI 0 0 (l.take (k + 1))) = intL (wakI 0 0 (l.take k)) ++ [(k : Int)]) := Lib.hid (by rw [wak_yes hf ⟨by simpa using hp, hx2⟩, intL_app]; rfl)
          obtain ⟨x, y⟩ := f
          simp only at hl0 hp hx2 c0 c1 h0 hM HT
          subst hx2
          have LA := Lib.hid ((HL.out.step (below_alloc wr (.cells #[.int .i64 2, .int .i64 y] 32))).step (below_alloc _ (.cells #[.int .i64 (k : Int)] 3)))
          have HK := Lib.hid (Shape.At.lit (S := shI) (cap := 1) [(k : Int)] (heap_alloc_new (wr.alloc (.cells #[.int .i64 2, .int .i64 y] 32)) (.cells #[.int .i64 (k : Int)] 3)))
          simp only [World.size_alloc] at HK
          have HBX := Lib.hid (heap_step (heap_alloc_new wr (.cells #[.int .i64 2, .int .i64 y] 32)) (below_alloc _ (.cells #[.int .i64 (k : Int)] 3)))
          have HRO : Hid (∀ g, (Value.slice ra k rc).ownBlock = some g → g ≠ wr.heap.size) := Lib.hid (fun g e => by have := (own_lt HL.out.out e).2; omega)
          clear hf hs
          go_wp2_with (first
            | (at_builtin; refine wpList_append_n shI rfl _ _ 25 rfl w1.heap.size 3 i0 _ 8 Try.underlying25 hi hz0 hz1 hz2 rfl (.slice wa ms wc) ms (intL (wakI 0 0 (l.take k))) _ HM rfl LA.out.wk (some ⟨wr.heap.size + 1, 0, none⟩) 1 1 rfl (Lib.hid rfl) HK.out (by unfold maxLen; omega) (by omega) LA.out.s ?_)
            | fail)
          intro wa5 wc5 w5 own5 grow5 _
          rw [← HW1.out] at own5
          have HB5 := Lib.hid ((grow5.block _ (heap_lt HBX.out) (fun e => own_ne LA.out.wk HBX.out (by decide) _ e.symm rfl)).trans HBX.out)
          have L5 := Lib.hid (LA.out.appW grow5 own5)
          have hMw : w1.heap.size ≤ wr.heap.size := HL.out.s
          have L5s := Lib.hid ((L5.out.set HB5.out (by decide) hMw HRO.out 0 (.int .i64 2)).set (heap_setCell_same w5 wr.heap.size 0 _ _ _ HB5.out) (by decide) hMw HRO.out 1 (.int .i64 (y - 1)))
          have LB := Lib.hid (L5s.out.step (below_alloc _ (.cells #[.int .i64 2, .int .i64 (y - 1)] 32)))
          have HK5 := Lib.hid (hd_lit ((w5.setCell ⟨wr.heap.size, 0, none⟩ (.int .i64 2)).setCell ⟨wr.heap.size, 1, none⟩ (.int .i64 (y - 1))) 2 (y - 1) 1)
          simp only [World.size_setCell] at HK5
          obtain ⟨e0, e1⟩ := pair_at HB5.out
          have e2 := fun i => frozen_of_row w5 wr.heap.size i _ _ HB5.out
          clear own5 grow5 LA HK HBX
          go_wp2_with (first
            | (at_builtin; refine wpList_append_n shH rfl _ _ 22 rfl w1.heap.size 32 i1 _ 16 Try.underlying22 hi1 hy0 hy1 hy2 rfl (.slice ra k rc) k ((l.map (decN 1)).take k) _ HMO rfl LB.out.out (some ⟨w5.heap.size, 0, none⟩) 1 1 rfl (Lib.hid rfl) HK5.out (by unfold maxLen; omega) (by omega) LB.out.s ?_)
            | fail)
          intro ra6 rc6 w6 own6 grow6 _
          rw [HT.out] at own6
          have L6 := Lib.hid (LB.out.appO grow6 own6)
          clear own6 grow6 LB HK5
          go_wp2_with fail
          go_roundw
          case rel => exact ⟨k + 1, ms + 1, wc5, rc6, wa5, ra6, 0, by omega, by go_num, rfl, rfl, rfl, HN1, HM1, L6⟩
          case measure => simp [intOf]; omega
        · have HM1 : Hid ((intL (wakI 0 0 (l.take (k + 1)))).length = ms) := Lib.hid (by rw [wak_no hf (fun e => hx2 e.2)]; exact HM.out)
          have HW1 : Hid (intL (wakI 0 0 (l.take (k + 1))) = intL (wakI 0 0 (l.take k))) := Lib.hid (by rw [wak_no hf (fun e => hx2 e.2)])
          obtain ⟨x, y⟩ := f
          simp only at hl0 hp hx2 c0 c1 h0 hM HT
          have h2' : (x == 2) = false := by simpa using hx2
          have LA := Lib.hid ((HL.out.step (below_alloc wr (.cells #[.int .i64 x, .int .i64 (y - 1)] 32))).step (below_alloc _ (.cells #[.int .i64 x, .int .i64 (y - 1)] 32)))
          have HK := Lib.hid (hd_lit (wr.alloc (.cells #[.int .i64 x, .int .i64 (y - 1)] 32)) x (y - 1) 1)
          simp only [World.size_alloc] at HK
          clear hf hs
          go_wp2_with (first
            | (at_builtin; refine wpList_append_n shH rfl _ _ 22 rfl w1.heap.size 32 i1 _ 16 Try.underlying22 hi1 hy0 hy1 hy2 rfl (.slice ra k rc) k ((l.map (decN 1)).take k) _ HMO rfl LA.out.out (some ⟨wr.heap.size + 1, 0, none⟩) 1 1 rfl (Lib.hid rfl) HK.out (by unfold maxLen; omega) (by omega) LA.out.s ?_)
            | fail)
          intro ra6 rc6 w6 own6 grow6 _
          rw [HT.out] at own6
          have L6 := Lib.hid (LA.out.appO grow6 own6)
          rw [← HW1.out] at L6
          clear own6 grow6 LA HK
          go_wp2_with fail
          go_roundw
          case rel => exact ⟨k + 1, ms, wc, rc6, wa, ra6, 0, by omega, by go_num, rfl, rfl, rfl, HN1, HM1, L6⟩
          case measure => simp [intOf]; omega
    · obtain rfl : k = n := by omega
      have e : l.take k = l := by rw [← hm.out, List.take_length]
      have e' : (l.map (decN 1)).take k = l.map (decN 1) := by rw [← hm.out, ← List.length_map (decN 1), List.take_length]
      rw [e] at HN HM HL
      rw [e'] at HL
      have S6 := Lib.hid (S1.out.step (HL.out.b))
      have G6 := S6.out.cells
      obtain rfl : nn = m' := by rw [HN.out, H1.out]
      have hl := HM.out
      rw [intL_len] at hl
      subst hl
      obtain rfl : o' = (nn == 5) := H2.out.symm
      go_wp2_with fail
      go_region
      go_wp2_with fail
      refine bodyPost_ret (results_tmp2_row_tmp1 rfl _ _ (w.heap.size + 1) 24 #[.int .i64 (c + 1), .int .i64 nn, .bool (nn == 5)] (0, 0) _ rfl (tal_stored S6.out.z) Try.underlying24 rfl size_tally) rfl ?_
      exact iserve_end hm.out HL.out S6.out
end Go.Proofs.Ytdpfffifhkndlaa
