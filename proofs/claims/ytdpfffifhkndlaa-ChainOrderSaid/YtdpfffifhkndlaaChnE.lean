/- Package chain: the walk of Play. -/
import Derived.Test.YtdpfffifhkndlaaChnD
import Derived.RegionTactic
namespace Go.Proofs.Ytdpfffifhkndlaa
open Go.RowKit

theorem tal_ok {l : List HdT} {k : Nat} (hk : (k : Int) ≤ mostI l + 5) (h4 : k ≤ 400) : tOk (talI l k).came (talI l k).nobody (talI l k).off = true := by
  have h0 := most_nonneg l
  unfold talI tOk
  simp only [Bool.and_eq_true, decide_eq_true_eq, beq_iff_eq]
  refine ⟨⟨by omega, ?_⟩, ?_⟩
  · split <;> omega
  · rw [Bool.eq_iff_iff, decide_eq_true_eq, beq_iff_eq]
    split <;> omega
theorem err_off {l : List HdT} (hr : RtI l) {k : Nat} (hk : (k : Int) = mostI l + 5) (h4 : k ≤ 400) : errI (l.map (decN k)) (talI l k).came (talI l k).nobody (talI l k).off = 7 := by
  unfold errI
  rw [if_neg (show ¬ (decide (RtI (l.map (decN k))) = false ∨ tOk (talI l k).came (talI l k).nobody (talI l k).off = false) by rw [tal_ok (by omega) h4, decide_eq_true (dec_rt hr k)]; simp), if_pos (by unfold talI; simp only [decide_eq_true_eq]; exact hk)]
theorem err_on {l : List HdT} (hr : RtI l) {k : Nat} (hk : (k : Int) < mostI l + 5) (h4 : k ≤ 400) : errI (l.map (decN k)) (talI l k).came (talI l k).nobody (talI l k).off = 0 := by
  unfold errI
  rw [if_neg (show ¬ (decide (RtI (l.map (decN k))) = false ∨ tOk (talI l k).came (talI l k).nobody (talI l k).off = false) by rw [tal_ok (by omega) h4, decide_eq_true (dec_rt hr k)]; simp), if_neg (by unfold talI; simp only [decide_eq_true_eq]; omega), if_neg (by unfold talI; simp only; omega)]
theorem map_dec (l : List HdT) (k : Nat) : (l.map (decN k)).map (decN 1) = l.map (decN (k + 1)) := by
  rw [List.map_map]
  exact List.map_congr_left fun h _ => dec_dec k
theorem nob_next {l : List HdT} {k : Nat} (hk : (k : Int) < mostI l + 5) : nobI (talI l k).nobody (decide (0 < mostI (l.map (decN k)))) = (talI l (k + 1)).nobody ∧ ((talI l (k + 1)).nobody == 5) = (talI l (k + 1)).off ∧ (talI l k).came + 1 = (talI l (k + 1)).came := by
  rw [tal_step l k hk]
  have h0 := most_nonneg l
  have e : decide (0 < mostI (l.map (decN k))) = decide ((k : Int) < mostI l) := by
    rw [most_dec]
    simp only [decide_eq_decide]
    omega
  refine ⟨?_, ?_, rfl⟩
  · rw [e]
    unfold nobI
    simp only [decide_eq_true_eq]
  · simp only
    rw [Bool.eq_iff_iff, decide_eq_true_eq, beq_iff_eq]
theorem waks_le (l : List HdT) : ∀ k, (waksI l k).length ≤ k * l.length
  | 0 => Nat.zero_le _
  | k + 1 => by
    rw [waksI, List.length_append, Nat.add_mul, Nat.one_mul]
    exact Nat.add_le_add (waks_le l k) (wak_le k 0 l)
theorem waks_big {l : List HdT} {k m n : Nat} (h : (intL (waksI l k)).length = m) (hl : l.length = n) (hn : n ≤ 16) (hk : k ≤ 400) : m ≤ 6400 := by
  rw [intL_len] at h
  have h1 := waks_le l k
  have h2 := Nat.mul_le_mul hk (show l.length ≤ 16 by omega)
  omega
theorem waks_next (l : List HdT) (k : Nat) : intL (waksI l (k + 1)) = intL (waksI l k) ++ intL (wakI 0 0 (l.map (decN k))) := by
  rw [waksI, intL_app, wak_dec]
/-- What is in memory while Play runs. -/
structure LpP (w wx : World) (TB : Nat) (l : List HdT) (k : Nat) (ra : Option Addr) (rc : Nat) (v : Value) (m : Nat) : Prop where
  b : Below w.heap.size w wx
  lt : w.heap.size < TB
  z : wx.heap[w.heap.size]? = some (.cells #[.int .i64 0, .int .i64 0, .bool false] 24 (0, 0))
  t : wx.heap[TB]? = some (.cells #[.int .i64 (talI l k).came, .int .i64 (talI l k).nobody, .bool (talI l k).off] 24 (0, 0))
  a : shH.At wx ra rc (l.map (decN k))
  n : ∀ a, ra = some a → a.block ≠ w.heap.size ∧ a.block ≠ TB
  o : wx.ownsRow w.heap.size 3 1 v m (shI.flat (intL (waksI l k)))
section
variable {w wx wy : World} {TB k rc m n : Nat} {l : List HdT} {ra : Option Addr} {v : Value}
theorem LpP.cells (h : LpP w wx TB l k ra rc v m) : (wx.cell? ⟨w.heap.size, 0, none⟩ = some (.int .i64 0) ∧ wx.cell? ⟨w.heap.size, 1, none⟩ = some (.int .i64 0) ∧ wx.cell? ⟨w.heap.size, 2, none⟩ = some (.bool false)) ∧ (wx.cell? ⟨TB, 0, none⟩ = some (.int .i64 (talI l k).came) ∧ wx.cell? ⟨TB, 1, none⟩ = some (.int .i64 (talI l k).nobody) ∧ wx.cell? ⟨TB, 2, none⟩ = some (.bool (talI l k).off)) ∧ (∀ i, wx.frozen? ⟨w.heap.size, i, none⟩ = false) ∧ (∀ i, wx.frozen? ⟨TB, i, none⟩ = false) :=
  ⟨trio_at h.z, trio_at h.t, fun i => frozen_of_row _ _ i _ _ h.z, fun i => frozen_of_row _ _ i _ _ h.t⟩
theorem LpP.step (h : LpP w wx TB l k ra rc v m) (hb : Below wx.heap.size wx wy) : LpP w wy TB l k ra rc v m :=
  ⟨pstep h.b hb, h.lt, heap_step h.z hb, heap_step h.t hb, h.a.step hb, h.n, own_step h.o hb⟩
theorem dec_zeros {l : List HdT} (hr : RtI l) : l.map (decN 0) = l := by
  have h : l.map (decN 0) = l.map id := List.map_congr_left fun h hh => dec_zero (hr.2 h hh).2.1
  rw [h, List.map_id]
theorem play_start {w3 : World} {base : Nat} (hr : RtI l) (hb : Below w.heap.size w w3) (hz : w3.heap[w.heap.size]? = some (.cells #[.int .i64 0, .int .i64 0, .bool false] 24 (0, 0))) (ho : w3.ownsRow base 32 2 (.slice ra n rc) n (shH.flat l)) (hl : w.heap.size < base) (hlen : l.length = n) :
    LpP w (w3.alloc (.cells #[.int .i64 0, .int .i64 0, .bool false] 24)) w3.heap.size l 0 ra rc (.slice none 0 0) 0 := by
  have e := tal_zero l
  refine ⟨pstep hb (below_alloc _ _), heap_lt hz, heap_step hz (below_alloc _ _), by rw [e]; exact heap_alloc_new _ _, ?_, fun a ha => ?_, World.ownsRow_nil _ _ _ _⟩
  · rw [dec_zeros hr]
    exact (Shape.At.own (S := shH) ho hlen).step (below_alloc _ _)
  · obtain ⟨ad', cap', hv, _, _, _, h⟩ := own_shape ho
    simp only [Value.slice.injEq, true_and] at hv
    obtain ⟨g, hg, h1, h2⟩ := h a (by rw [← hv.1]; exact ha)
    rw [hg]
    simp only
    omega
/-- The tally is written down anew, at a world where the new handlers and their wakes lie. -/
structure LpQ (w wx : World) (TB : Nat) (l : List HdT) (k : Nat) (ra : Option Addr) (rc : Nat) (v : Value) (m : Nat) (wa : Option Addr) (wc : Nat) : Prop where
  b : Below w.heap.size w wx
  lt : w.heap.size < TB
  z : wx.heap[w.heap.size]? = some (.cells #[.int .i64 0, .int .i64 0, .bool false] 24 (0, 0))
  t : wx.heap[TB]? = some (.cells #[.int .i64 (talI l (k + 1)).came, .int .i64 (talI l (k + 1)).nobody, .bool (talI l (k + 1)).off] 24 (0, 0))
  a : shH.At wx ra rc (l.map (decN (k + 1)))
  n : ∀ a, ra = some a → a.block ≠ w.heap.size ∧ a.block ≠ TB
  hd : ∀ a, ra = some a → ∃ cs, wx.heap[a.block]? = some (.cells cs 32 (0, 0))
  o : wx.ownsRow w.heap.size 3 1 v m (shI.flat (intL (waksI l k)))
  y : shI.At wx wa wc (intL (wakI 0 0 (l.map (decN k))))
  s : w.heap.size ≤ wx.heap.size
theorem LpQ.grown {v' : Value} {m' : Nat} {wa : Option Addr} {wc : Nat} (h : LpQ w wx TB l k ra rc v m wa wc) (hg : wx.grownBy wy v.ownBlock) (ho : wy.ownsRow w.heap.size 3 1 v' m' (shI.flat (intL (waksI l k) ++ intL (wakI 0 0 (l.map (decN k)))))) : LpP w wy TB l (k + 1) ra rc v' m' := by
  have hB : Below w.heap.size w wy := h.b.grown hg h.s (fun g hv => (own_lt h.o hv).1)
  refine ⟨hB, h.lt, (hg.block _ (heap_lt h.z) (fun e => own_ne h.o h.z (by decide) _ e.symm rfl)).trans h.z, (hg.block _ (heap_lt h.t) (fun e => own_ne h.o h.t (by decide) _ e.symm rfl)).trans h.t, ⟨h.a.1, fun h0 => ?_⟩, h.n, by rw [waks_next]; exact ho⟩
  obtain ⟨b, off, e, hb, hl⟩ := h.a.2 h0
  obtain ⟨cs, hcs⟩ := h.hd _ e
  have hblk : wy.heap[b]? = wx.heap[b]? := hg.block b hb (fun e2 => own_ne h.o hcs (by decide) _ e2.symm rfl)
  refine ⟨b, off, e, Nat.lt_of_lt_of_le hb hg.size, fun j hj => ?_⟩
  rw [← hl j hj]
  unfold World.cell?
  rw [hblk]
theorem LpP.turn {ra' wa : Option Addr} {rc' wc base : Nat} (h : LpP w wx TB l k ra rc v m) (hA : shH.At wx ra' rc' (l.map (decN (k + 1)))) (hd : AdH base wx ra') (hb : TB < base) (hy : shI.At wx wa wc (intL (wakI 0 0 (l.map (decN k))))) (hwa : ∀ a, wa = some a → base ≤ a.block) :
    LpQ w (((wx.setCell ⟨TB, 0, none⟩ (.int .i64 (talI l (k + 1)).came)).setCell ⟨TB, 1, none⟩ (.int .i64 (talI l (k + 1)).nobody)).setCell ⟨TB, 2, none⟩ (.bool (talI l (k + 1)).off)) TB l k ra' rc' v m wa wc := by
  have hlt := h.lt
  have n0 := own_ne h.o h.t (by decide)
  refine ⟨set3_below _ _ _ h.b (by omega), h.lt, ?_, tal_stored h.t, at_tal _ _ _ hA (fun a e => by have := (hd a e).1; omega), fun a e => by have := (hd a e).1; omega, fun a e => ((hd.tal _ _ _ hb) a e).2, own_set (own_set (own_set h.o n0 _) n0 _) n0 _, at_tal _ _ _ hy (fun a e => by have := hwa a e; omega), by simpa using h.b.size⟩
  rw [set_other (by omega), set_other (by omega), set_other (by omega)]
  exact h.z
end
/-- What Play answers where nothing speaks against it. -/
def PlayOut (w : World) (n : Nat) (l : List HdT) (t : Nat) (e : Ending) (w' : World) : Prop :=
  ∃ ra rc wa wc, e = .returned (.tuple #[.slice ra n rc, .slice wa (waksI l t).length wc, .agg #[.int .i64 (talI l t).came, .int .i64 (talI l t).nobody, .bool (talI l t).off], .int .i64 0]) ∧ shH.At w' ra rc (l.map (decN t)) ∧ shI.At w' wa wc (intL (waksI l t)) ∧ Below w.heap.size w w'
theorem play_end {w wr : World} {n k m rc wc TB : Nat} {ra wa : Option Addr} {l : List HdT} (hm : (intL (waksI l k)).length = m) (h : LpP w wr TB l k ra rc (.slice wa m wc) m) :
    PlayOut w n l k (.returned (.tuple #[.slice ra n rc, .slice wa m wc, .agg #[.int .i64 (talI l k).came, .int .i64 (talI l k).nobody, .bool (talI l k).off], .int .i64 0])) (((wr.drew.setCell ⟨w.heap.size, 0, none⟩ (.int .i64 (talI l k).came)).setCell ⟨w.heap.size, 1, none⟩ (.int .i64 (talI l k).nobody)).setCell ⟨w.heap.size, 2, none⟩ (.bool (talI l k).off)) := by
  have h' := h.step (Below.refl _ wr).drew
  have n0 := own_ne h'.o h'.z (by decide)
  have hm' := hm
  rw [intL_len] at hm'
  subst hm'
  exact ⟨ra, rc, wa, wc, rfl, at_tal _ _ _ h'.a (fun a e => (h'.n a e).1), Shape.At.own (S := shI) (own_set (own_set (own_set h'.o n0 _) n0 _) n0 _) hm, set3_below _ _ _ h'.b (Nat.le_refl _)⟩
set_option maxHeartbeats 1000000 in
set_option maxRecDepth 100000 in
theorem play_form {ad : Option Addr} {cap n : Nat} {l : List HdT} (times : Int) (w : World) (HA : Hid (shH.At w ad cap l)) (hm : Hid (l.length = n)) (hn : n ≤ 9223372036854775807) (hr : Hid (decide (RtI l) = false)) :
    Calls Try.prog 14 #[.slice ad n cap, .int .i64 times] w fun e w' => e = .returned (.tuple #[.slice none 0 0, .slice none 0 0, .agg #[.int .i64 0, .int .i64 0, .bool false], .int .i64 1]) ∧ Below w.heap.size w w' := by
  have B0 := Lib.hid (below_alloc w (.cells #[.int .i64 0, .int .i64 0, .bool false] 24))
  have Z0 := Lib.hid (heap_alloc_new w (.cells #[.int .i64 0, .int .i64 0, .bool false] 24))
  have HA0 := Lib.hid (HA.out.step B0.out)
  go_enter Try.func14, Try.ntmps14
  go_wp2_with (first
    | (go_at_call 10; (with_reducible refine (right_N _ HA0 hm hn).mono ?_); rintro e w1 ⟨hq, hb⟩; have he := retB_dec hq hr.out; subst he; have B1 := Lib.hid (pstep B0.out hb); have Z1 := Lib.hid (heap_step Z0.out hb); have G1 := trio_at Z1.out; have F1 := fun i => frozen_of_row w1 w.heap.size i _ _ Z1.out; clear hb hq)
    | fail)
  refine bodyPost_ret (results_tmp2_row_tmp1 rfl _ _ w.heap.size 24 #[.int .i64 0, .int .i64 0, .bool false] (0, 0) _ rfl (tal_stored Z1.out) Try.underlying24 rfl size_tally) rfl ⟨rfl, set3_below _ _ _ B1.out (Nat.le_refl _)⟩
set_option maxHeartbeats 1000000 in
set_option maxRecDepth 100000 in
theorem play_range {ad : Option Addr} {cap n : Nat} {l : List HdT} (times : Int) (w : World) (HA : Hid (shH.At w ad cap l)) (hm : Hid (l.length = n)) (hn : n ≤ 9223372036854775807) (hr : Hid (decide (RtI l) = true)) (ht : Hid (decide (0 ≤ times ∧ times ≤ 400) = false)) :
    Calls Try.prog 14 #[.slice ad n cap, .int .i64 times] w fun e w' => e = .returned (.tuple #[.slice none 0 0, .slice none 0 0, .agg #[.int .i64 0, .int .i64 0, .bool false], .int .i64 2]) ∧ Below w.heap.size w w' := by
  have B0 := Lib.hid (below_alloc w (.cells #[.int .i64 0, .int .i64 0, .bool false] 24))
  have Z0 := Lib.hid (heap_alloc_new w (.cells #[.int .i64 0, .int .i64 0, .bool false] 24))
  have HA0 := Lib.hid (HA.out.step B0.out)
  go_enter Try.func14, Try.ntmps14
  go_wp2_with (first
    | (go_at_call 10; (with_reducible refine (right_N _ HA0 hm hn).mono ?_); rintro e w1 ⟨hq, hb⟩; have he := retB_dec hq hr.out; subst he; have B1 := Lib.hid (pstep B0.out hb); have Z1 := Lib.hid (heap_step Z0.out hb); have G1 := trio_at Z1.out; have F1 := fun i => frozen_of_row w1 w.heap.size i _ _ Z1.out; clear hb hq)
    | (go_at_call 24; (with_reducible refine (within_C times 400 _ false ht).mono ?_); rintro e w2 ⟨rfl, rfl⟩)
    | fail)
  refine bodyPost_ret (results_tmp2_row_tmp1 rfl _ _ w.heap.size 24 #[.int .i64 0, .int .i64 0, .bool false] (0, 0) _ rfl (tal_stored Z1.out) Try.underlying24 rfl size_tally) rfl ⟨rfl, set3_below _ _ _ B1.out (Nat.le_refl _)⟩
set_option maxHeartbeats 2000000 in
set_option maxRecDepth 100000 in
theorem play_ok {ad : Option Addr} {cap n : Nat} {l : List HdT} (T : Nat) (w : World) (HA : Hid (shH.At w ad cap l)) (hm : Hid (l.length = n)) (hr : Hid (decide (RtI l) = true)) (hT : T ≤ 400) (ct : Nat) (HC : Hid (cameI l T = ct)) :
    Calls Try.prog 14 #[.slice ad n cap, .int .i64 T] w (PlayOut w n l ct) := by
  have B0 := Lib.hid (below_alloc w (.cells #[.int .i64 0, .int .i64 0, .bool false] 24))
  have Z0 := Lib.hid (heap_alloc_new w (.cells #[.int .i64 0, .int .i64 0, .bool false] 24))
  have HA0 := Lib.hid (HA.out.step B0.out)
  have hrt := of_decide_eq_true hr.out
  have hn16 : n ≤ 16 := by rw [← hm.out]; exact hrt.1
  have hn : n ≤ 9223372036854775807 := by omega
  have hn2 : n ≤ 8796093022208 := by omega
  have HRT := Lib.hid hrt
  have HW : Hid (decide (0 ≤ (T : Int) ∧ (T : Int) ≤ 400) = true) := Lib.hid (decide_eq_true (by omega))
  clear hrt
  obtain ⟨i0, hi, hz0, hz1, hz2⟩ := info_parts' info_int
  go_enter Try.func14, Try.ntmps14
  go_wp2_with (first
    | (go_at_call 10; (with_reducible refine (right_N _ HA0 hm hn).mono ?_); rintro e w1 ⟨hq, hb⟩; have he := retB_dec hq hr.out; subst he; have B1 := Lib.hid (pstep B0.out hb); have Z1 := Lib.hid (heap_step Z0.out hb); have HA1 := Lib.hid (HA0.out.step hb); clear hb hq)
    | (go_at_call 24; (with_reducible refine (within_C (T : Int) 400 _ true HW).mono ?_); rintro e w2 ⟨rfl, rfl⟩)
    | (go_at_call 19; (with_reducible refine (clone_H l ad n cap _ hm HA1 hn2).mono ?_); rintro e w3 ⟨ra, rc, rfl, o3, hb⟩; have B3 := Lib.hid (pstep B1.out hb); have Z3 := Lib.hid (heap_step Z1.out hb); have O3 := Lib.hid o3; have hz1' := heap_lt Z1.out; clear hb o3)
    | fail)
  go_loopw [0, 8, 25] (fun v0 v8 i wr => ∃ (k m rc wc : Nat) (ra wa : Option Addr), k ≤ T ∧ i = .int .i64 k ∧ v0 = .slice ra n rc ∧ v8 = .slice wa m wc ∧ Hid ((k : Int) ≤ mostI l + 5) ∧ Hid ((intL (waksI l k)).length = m) ∧ Hid (LpP w wr w3.heap.size l k ra rc (.slice wa m wc) m)) (fun _ _ i _ => T - (intOf i).toNat)
  case atStart => exact ⟨0, 0, rc, 0, ra, none, Nat.zero_le _, rfl, rfl, rfl, Lib.hid (by have := most_nonneg l; omega), Lib.hid rfl, Lib.hid (play_start HRT.out B3.out Z3.out O3.out hz1' hm.out)⟩
  case round =>
    obtain ⟨k, m, rc, wc, ra, wa, hk, rfl, rfl, rfl, HK, HM, HL⟩ := hrel
    have G0 := HL.out.cells
    by_cases hlt : k < T
    · by_cases hoff : (k : Int) = mostI l + 5
      · have hk400 : k ≤ 400 := by omega
        have HX := Lib.hid (err_off HRT.out hoff hk400)
        have HML : Hid ((l.map (decN k)).length = n) := Lib.hid (by rw [List.length_map]; exact hm.out)
        have hct : ct = k := by rw [← HC.out]; unfold cameI; rw [if_neg (by omega)]; omega
        subst hct
        have HAk := Lib.hid HL.out.a
        go_wp2_with (first
          | (go_at_call 8; (with_reducible refine (serve_err _ _ _ _ HAk HML hn 7 HX rfl).mono ?_); rintro e w4 ⟨rfl, hb⟩; have L4 := Lib.hid (HL.out.step (pstep hb (below_alloc w4 (.cells #[.int .i64 0, .int .i64 0, .bool false] 24)))); have G4 := L4.out.cells; clear hb)
          | fail)
        go_region
        go_wp2_with fail
        refine bodyPost_ret (results_tmp2_row_tmp1 rfl _ _ w.heap.size 24 #[.int .i64 (talI l ct).came, .int .i64 (talI l ct).nobody, .bool (talI l ct).off] (0, 0) _ rfl (tal_stored L4.out.z) Try.underlying24 rfl size_tally) rfl ?_
        generalize w4.alloc (.cells #[.int .i64 0, .int .i64 0, .bool false] 24) = w5 at L4 ⊢
        exact play_end HM.out L4.out
      · have hk400 : k ≤ 400 := by omega
        have HX := Lib.hid (err_on HRT.out (by have := HK.out; omega) hk400)
        have HML : Hid ((l.map (decN k)).length = n) := Lib.hid (by rw [List.length_map]; exact hm.out)
        obtain ⟨hn1, hn2', hn3⟩ := nob_next (l := l) (k := k) (by have := HK.out; omega)
        have HN1 := Lib.hid hn1
        have HN2 := Lib.hid hn2'
        have HAk := Lib.hid HL.out.a
        have hm6 := waks_big HM.out hm.out hn16 hk400
        have hw6 : (wakI 0 0 (l.map (decN k))).length ≤ 16 := by have := wak_le 0 0 (l.map (decN k)); rw [List.length_map, hm.out] at this; omega
        have HML2 : Hid ((intL (waksI l (k + 1))).length = m + (wakI 0 0 (l.map (decN k))).length) := Lib.hid (by rw [waks_next, List.length_append, HM.out, intL_len])
        clear hn1 hn2'
        go_wp2_with (first
          | (go_at_call 8; (with_reducible refine (serve_ok _ _ _ _ HAk HML HX _ _ HN1 HN2).mono ?_); rintro e w4 ⟨ra4, rc4, wa4, wc4, rfl, hA4, hW4, hb, hd4, hn4⟩; rw [map_dec] at hA4; have L4 := Lib.hid (HL.out.step hb); have L5 := Lib.hid (L4.out.step (below_alloc w4 (.cells #[.int .i64 (talI l (k + 1)).came, .int .i64 (talI l (k + 1)).nobody, .bool (talI l (k + 1)).off] 24)).drew); obtain ⟨_, ⟨c0, c1, c2⟩, _, f1⟩ := (L4.out.step (below_alloc w4 (.cells #[.int .i64 (talI l (k + 1)).came, .int .i64 (talI l (k + 1)).nobody, .bool (talI l (k + 1)).off] 24))).cells; have Q5 := Lib.hid (L5.out.turn (hA4.step (below_alloc w4 _).drew) (hd4.step (below_alloc w4 _).drew) (heap_lt HL.out.t) (hW4.step (below_alloc w4 _).drew) hn4); clear hb)
          | fail)
        go_region
        clear c0 c1 c2 f1 G0
        go_wp2_with (first
          | (at_builtin; refine wpList_append_n shI rfl _ _ 25 rfl w.heap.size 3 i0 _ 8 Try.underlying25 hi hz0 hz1 hz2 rfl (.slice wa m wc) m (intL (waksI l k)) (intL (wakI 0 0 (l.map (decN k)))) HM rfl Q5.out.o wa4 (wakI 0 0 (l.map (decN k))).length wc4 rfl (Lib.hid (intL_len _)) Q5.out.y (by unfold maxLen; omega) (by omega) Q5.out.s ?_)
          | fail)
        intro ra6 rc6 w6 own6 grow6 _
        have L6 := Lib.hid (Q5.out.grown grow6 own6)
        have HK6 : Hid (((k + 1 : Nat) : Int) ≤ mostI l + 5) := Lib.hid (by have := HK.out; omega)
        clear own6 grow6
        go_wp2_with fail
        go_roundw
        case rel => exact ⟨k + 1, _, rc4, rc6, ra4, ra6, by omega, by go_num, rfl, rfl, HK6, HML2, L6⟩
        case measure => simp [intOf]; omega
    · obtain rfl : k = T := by omega
      go_wp2_with fail
      have hct : ct = k := by rw [← HC.out]; unfold cameI; rw [if_pos HK.out]
      subst hct
      go_region
      go_wp2_with fail
      refine bodyPost_ret (results_tmp2_row_tmp1 rfl _ _ w.heap.size 24 #[.int .i64 (talI l ct).came, .int .i64 (talI l ct).nobody, .bool (talI l ct).off] (0, 0) _ rfl (tal_stored HL.out.z) Try.underlying24 rfl size_tally) rfl ?_
      exact play_end HM.out HL.out
end Go.Proofs.Ytdpfffifhkndlaa
