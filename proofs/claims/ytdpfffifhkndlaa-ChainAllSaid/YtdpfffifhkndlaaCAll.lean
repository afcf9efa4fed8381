/- The walk of ChainAll. -/
import Derived.Test.YtdpfffifhkndlaaFind
import Derived.Test.YtdpfffifhkndlaaChnH
import Derived.Test.YtdpfffifhkndlaaChnO
import Derived.Lib.MinMax
namespace Go.Proofs.Ytdpfffifhkndlaa
open Go.RowKit

/-- How many say something. -/
def saidI (l : List HdT) : Nat := l.countP fun h => decide (0 < h.left)
theorem said_next {l : List HdT} {k : Nat} {f : HdT} (hf : l[k]? = some f) : saidI (l.take (k + 1)) = saidI (l.take k) + if 0 < f.left then 1 else 0 := by
  unfold saidI
  rw [take_next hf, List.countP_append]
  congr 1
  rw [List.countP_cons, List.countP_nil, Nat.zero_add]
  by_cases h : 0 < f.left
  · rw [if_pos (decide_eq_true h), if_pos h]
  · rw [if_neg (by rw [decide_eq_false h]; simp), if_neg h]
theorem said_pos {l : List HdT} : 0 < saidI l ↔ 0 < mostI l := by
  unfold saidI
  have := (most_iff 0 l)
  rw [show ((0 : Nat) : Int) = 0 from rfl] at this
  rw [List.countP_pos_iff, this]
  simp only [decide_eq_true_eq]
theorem wak_here {l : List HdT} {k : Nat} {f : HdT} (hf : l[k]? = some f) : (∃ i, i < (wakI 0 0 l).length ∧ fnL (intL (wakI 0 0 l)) i = (k : Int)) ↔ (0 < f.left ∧ f.says = 2) := by
  have hm := wak_mem 0 0 l k
  constructor
  · rintro ⟨i, hi, e⟩
    have hi' : i < (intL (wakI 0 0 l)).length := by rw [intL_len]; exact hi
    have h1 := fnL_get hi'
    rw [e] at h1
    unfold intL at h1
    rw [List.getElem?_map] at h1
    cases h2 : (wakI 0 0 l)[i]? with
    | none => rw [h2] at h1; cases h1
    | some j =>
      rw [h2] at h1
      have : j = k := by
        have h3 : Int.ofNat j = (k : Int) := by simpa using h1
        exact Int.ofNat.inj h3
      subst this
      obtain ⟨i2, h, e2, h3, h4, h5⟩ := hm.1 (List.mem_of_getElem? h2)
      rw [Nat.zero_add] at e2
      subst e2
      rw [hf] at h3
      cases h3
      exact ⟨by simpa using h4, h5⟩
  · rintro ⟨h1, h2⟩
    have := hm.2 ⟨k, f, by omega, hf, by simpa using h1, h2⟩
    obtain ⟨i, hi⟩ := List.mem_iff_getElem?.1 this
    have hlt := (List.getElem?_eq_some_iff.1 hi).1
    refine ⟨i, hlt, ?_⟩
    have h3 := fnL_get (l := intL (wakI 0 0 l)) (i := i) (by rw [intL_len]; exact hlt)
    unfold intL at h3 ⊢
    rw [List.getElem?_map, hi] at h3
    simpa using h3.symm
theorem nob_said {l : List HdT} {m m' : Int} (hm : 0 ≤ m) (h : nobI m (decide (0 < mostI l)) = m') : (m' == 0) = decide (0 < (saidI l : Int)) := by
  subst h
  unfold nobI
  by_cases g : 0 < mostI l
  · rw [if_pos (decide_eq_true g)]
    have := said_pos.2 g
    rw [decide_eq_true (by omega)]; rfl
  · rw [if_neg (by rw [decide_eq_false g]; simp)]
    have : ¬ 0 < saidI l := fun h => g (said_pos.1 h)
    rw [decide_eq_false (by omega)]
    simp; omega
set_option maxHeartbeats 2000000 in
set_option maxRecDepth 100000 in
theorem all_err {ad : Option Addr} {cap n : Nat} {l : List HdT} (c m : Int) (o : Bool) (w : World) (HA : Hid (shH.At w ad cap l)) (hm : Hid (l.length = n)) (hn : n ≤ 9223372036854775807) (x : Int) (hx : Hid (errI l c m o = x)) (hx0 : (x != 0) = true) :
    Calls Try.prog 5 #[.slice ad n cap, .agg #[.int .i64 c, .int .i64 m, .bool o]] w fun e w' => e = .returned (.bool true) ∧ Below w.heap.size w w' := by
  have heq : ∀ (x y : Int) (b : Bool) (w : World), (Op.equalIn 10000 24 (.agg #[.int .i64 x, .int .i64 y, .bool b]) (.agg #[.int .i64 x, .int .i64 y, .bool b])).run Try.prog w = .ok true w := eq_tally
  have B0 := Lib.hid (below_alloc w (.cells #[.int .i64 c, .int .i64 m, .bool o] 24))
  have T0 := Lib.hid (heap_alloc_new w (.cells #[.int .i64 c, .int .i64 m, .bool o] 24))
  have HA0 := Lib.hid (HA.out.step B0.out)
  go_enter Try.func5, Try.ntmps5
  go_wp2_with (first
    | (go_at_call 16; (with_reducible refine (alive9_N _).mono ?_); rintro e w1 ⟨rfl, hb⟩; have B1 := Lib.hid (pstep B0.out hb); have T1 := trio_at (heap_step T0.out hb); have HA1 := Lib.hid (HA0.out.step hb); clear hb)
    | (go_at_call 8; (with_reducible refine (serve_err c m o _ HA1 hm hn x hx hx0).mono ?_); rintro e w2 ⟨rfl, hb⟩; have B2 := Lib.hid (pstep (pstep B1.out hb) (below_alloc w2 (.cells #[.int .i64 0, .int .i64 0, .bool false] 24))); clear hb)
    | fail)
  go_ret
  exact ⟨rfl, B2.out⟩
/-- What is in memory while the answers are looked at. -/
structure LpA (w wx : World) (B2 : Nat) (ad ra wa : Option Addr) (cap rc wc : Nat) (l : List HdT) (c m : Int) (o : Bool) : Prop where
  b : Below w.heap.size w wx
  t : wx.heap[B2]? = some (.cells #[.int .i64 c, .int .i64 m, .bool o] 24 (0, 0))
  a : shH.At wx ad cap l
  r : shH.At wx ra rc (l.map (decN 1))
  k : shI.At wx wa wc (intL (wakI 0 0 l))
theorem LpA.step {w wx wy : World} {B2 : Nat} {ad ra wa : Option Addr} {cap rc wc : Nat} {l : List HdT} {c m : Int} {o : Bool} (h : LpA w wx B2 ad ra wa cap rc wc l c m o) (hb : Below wx.heap.size wx wy) : LpA w wy B2 ad ra wa cap rc wc l c m o :=
  ⟨pstep h.b hb, heap_step h.t hb, h.a.step hb, h.r.step hb, h.k.step hb⟩
set_option maxHeartbeats 4000000 in
set_option maxRecDepth 100000 in
theorem all_ok {ad : Option Addr} {cap n : Nat} {l : List HdT} (c m : Int) (o : Bool) (w : World) (HA : Hid (shH.At w ad cap l)) (hm : Hid (l.length = n)) (hx : Hid (errI l c m o = 0)) :
    Calls Try.prog 5 #[.slice ad n cap, .agg #[.int .i64 c, .int .i64 m, .bool o]] w fun e w' => e = .returned (.bool true) ∧ Below w.heap.size w w' := by
  obtain ⟨hrt, _, _, hm0, _, rfl⟩ := errI_zero hx.out
  have B0 := Lib.hid (below_alloc w (.cells #[.int .i64 c, .int .i64 m, .bool false] 24))
  have T0 := Lib.hid (heap_alloc_new w (.cells #[.int .i64 c, .int .i64 m, .bool false] 24))
  have HA0 := Lib.hid (HA.out.step B0.out)
  have HRT := Lib.hid hrt
  have hn16 : n ≤ 16 := by rw [← hm.out]; exact hrt.1
  obtain ⟨m', hm'⟩ : ∃ m', nobI m (decide (0 < mostI l)) = m' := ⟨_, rfl⟩
  obtain ⟨o', ho'⟩ : ∃ o', (m' == 5) = o' := ⟨_, rfl⟩
  have HMS := Lib.hid (nob_said hm0 hm')
  have H1 := Lib.hid hm'
  have H2 := Lib.hid ho'
  have HML : Hid ((l.map (decN 1)).length = n) := Lib.hid (by rw [List.length_map]; exact hm.out)
  obtain ⟨q, hq⟩ : ∃ q, (wakI 0 0 l).length = q := ⟨_, rfl⟩
  have hqn : q ≤ 9223372036854775807 := by have := wak_le 0 0 l; have := hm.out; omega
  have HQ := Lib.hid hq
  clear hm' ho' hq hrt hm0
  go_enter Try.func5, Try.ntmps5
  go_wp2_with (first
    | (go_at_call 16; (with_reducible refine (alive9_N _).mono ?_); rintro e w1 ⟨rfl, hb⟩; have B1 := Lib.hid (pstep B0.out hb); have T1 := trio_at (heap_step T0.out hb); have HA1 := Lib.hid (HA0.out.step hb); clear hb)
    | (go_at_call 8; (with_reducible refine (serve_ok c m false _ HA1 hm hx m' o' H1 H2).mono ?_); rintro e w2 ⟨ra, rc, wa, wc, he, hA, hW, hb, _⟩; rw [HQ.out] at he; subst he; have L2 : Hid (LpA w (w2.alloc (.cells #[.int .i64 (c + 1), .int .i64 m', .bool o'] 24)) w2.heap.size ad ra wa cap rc wc l (c + 1) m' o') := Lib.hid (LpA.mk (pstep (pstep B1.out hb) (below_alloc w2 (.cells #[.int .i64 (c + 1), .int .i64 m', .bool o'] 24))) (heap_alloc_new w2 (.cells #[.int .i64 (c + 1), .int .i64 m', .bool o'] 24)) ((HA1.out.step hb).step (below_alloc w2 (.cells #[.int .i64 (c + 1), .int .i64 m', .bool o'] 24))) (hA.step (below_alloc w2 (.cells #[.int .i64 (c + 1), .int .i64 m', .bool o'] 24))) (hW.step (below_alloc w2 (.cells #[.int .i64 (c + 1), .int .i64 m', .bool o'] 24)))); clear hb hA hW)
    | fail)
  generalize w2.heap.size = B2 at L2 ⊢
  go_loopw [9, 37] (fun s i wr => ∃ k : Nat, k ≤ n ∧ i = .int .i64 k ∧ s = .int .i64 (saidI (l.take k)) ∧ Hid (LpA w wr B2 ad ra wa cap rc wc l (c + 1) m' o')) (fun _ i _ => n - (intOf i).toNat)
  case atStart => exact ⟨0, Nat.zero_le _, rfl, rfl, L2⟩
  case round =>
    obtain ⟨k, hk, rfl, rfl, HL⟩ := hrel
    by_cases hlt : k < n
    · obtain ⟨f, hf⟩ : ∃ f, l[k]? = some f := ⟨l[k]'(by rw [hm.out]; exact hlt), List.getElem?_eq_getElem _⟩
      obtain ⟨hs, h0, hM⟩ := rt_at HRT.out hf
      have hwk := wak_here hf
      have hsn := said_next hf
      have hf2 : (l.map (decN 1))[k]? = some (decN 1 f) := by rw [List.getElem?_map, hf]; rfl
      have hdl : (decN 1 f).left = max (f.left - 1) 0 := by unfold decN; simp only; split <;> omega
      have hds : (decN 1 f).says = f.says := rfl
      obtain ⟨x, y⟩ := f
      have HL3 := Lib.hid (HL.out.step (below_alloc wr (.cells #[.int .i64 x, .int .i64 y] 32)))
      obtain ⟨b, off, rfl, hb, c0, c1⟩ := at_hd HL.out.a hf
      obtain ⟨b2, off2, rfl, hb2, d0, d1⟩ := at_hd HL3.out.r hf2
      rw [hdl] at d1
      rw [hds] at d0
      have HK := Lib.hid (IntAt.of (n := q) HL3.out.k (by rw [intL_len]; exact HQ.out))
      obtain ⟨g, hg⟩ : ∃ g, decide (0 < y ∧ x = 2) = g := ⟨_, rfl⟩
      have HC : Hid (g = true ↔ ∃ i, i < q ∧ fnL (intL (wakI 0 0 l)) i = (k : Int)) := Lib.hid (by rw [← HQ.out, hwk, ← hg, decide_eq_true_iff])
      have HCC : Hid (∀ w1 : World, IntAt w1 wa wc q (fnL (intL (wakI 0 0 l))) → Calls Try.prog 17 #[.slice wa q wc, .int .i64 (k : Int)] w1 fun e w' => e = .returned (.bool g) ∧ w' = w1) := Lib.hid fun w1 h => (contains_N (k : Int) w1 (Lib.hid h) hqn g HC).mono fun _ _ h => ⟨h.1, h.2.symm⟩
      clear HC
      simp only at h0 hM c0 c1 d0 d1 hsn hs
      have hs16 : saidI (l.take k) ≤ 16 := by
        have h1 : saidI (l.take k) ≤ (l.take k).length := List.countP_le_length
        rw [List.length_take] at h1
        have := hm.out
        omega
      obtain ⟨s, hss⟩ : ∃ s, saidI (l.take k) = s := ⟨_, rfl⟩
      rw [hss] at hsn hs16
      have HSN := Lib.hid hsn
      have HX : Hid (decide (0 < y ∧ x = 2) = g) := Lib.hid hg
      clear hwk hf hf2 hdl hds hsn hg
      simp only [hss]
      obtain ⟨yy, hmx⟩ : ∃ yy, max (y - 1) 0 = yy := ⟨_, rfl⟩
      rw [hmx] at d1
      have hwr : IntKind.i64.wrap (y - 1) = y - 1 := by rw [IntKind.wrap_i64]; omega
      by_cases hy : 0 < y
      · have HS1 : Hid (saidI (l.take (k + 1)) = s + 1) := Lib.hid (by rw [HSN.out, if_pos hy])
        have hyd : decide (0 < y) = true := decide_eq_true hy
        rcases hs with rfl | rfl
        · obtain rfl : g = false := by rw [← HX.out]; simp
          go_wp2_with fail
          go_quiet ((go_at_call 17; exact Calls.quiet_of_same (HCC.out _ (HK.out.step (below_drewN (Below.refl _ _) _)))))
          go_wp2_with fail
          go_roundw
          case rel => exact ⟨k + 1, by omega, by go_num, by rw [HS1.out]; go_num, Lib.hid (HL3.out.step (below_drewN (Below.refl _ _) _))⟩
          case measure => simp [intOf]; omega
        · obtain rfl : g = true := by rw [← HX.out]; simp [hy]
          go_wp2_with fail
          go_quiet ((go_at_call 17; exact Calls.quiet_of_same (HCC.out _ (HK.out.step (below_drewN (Below.refl _ _) _)))))
          go_wp2_with fail
          go_roundw
          case rel => exact ⟨k + 1, by omega, by go_num, by rw [HS1.out]; go_num, Lib.hid (HL3.out.step (below_drewN (Below.refl _ _) _))⟩
          case measure => simp [intOf]; omega
      · have HS1 : Hid (saidI (l.take (k + 1)) = s) := Lib.hid (by rw [HSN.out, if_neg hy]; rfl)
        have hyd : decide (0 < y) = false := decide_eq_false hy
        obtain rfl : g = false := by rw [← HX.out]; simp [hy]
        go_wp2_with fail
        go_quiet ((go_at_call 17; exact Calls.quiet_of_same (HCC.out _ (HK.out.step (below_drewN (Below.refl _ _) _)))))
        go_wp2_with fail
        go_roundw
        case rel => exact ⟨k + 1, by omega, by go_num, by rw [HS1.out], Lib.hid (HL3.out.step (below_drewN (Below.refl _ _) _))⟩
        case measure => simp [intOf]; omega
    · obtain rfl : n = k := by omega
      have e : l.take n = l := by rw [← hm.out, List.take_length]
      obtain ⟨v, hv⟩ : ∃ v, leftI l = v := ⟨_, rfl⟩
      obtain ⟨v2, hv2⟩ : ∃ v2, leftI (l.map (decN 1)) = v2 := ⟨_, rfl⟩
      have hsaid : v - v2 = (saidI l : Int) := by rw [← hv, ← hv2]; exact left_said fun h hh => (HRT.out.2 h hh).2.1
      have hb1 := left_take HRT.out n
      rw [e, hv] at hb1
      have HRT2 : Hid (RtI (l.map (decN 1))) := Lib.hid (dec_rt HRT.out 1)
      have hb2 := left_take HRT2.out n
      rw [show (l.map (decN 1)).take n = l.map (decN 1) by rw [← hm.out, ← List.length_map (decN 1), List.take_length], hv2] at hb2
      have HV := Lib.hid hv
      have HV2 := Lib.hid hv2
      have hms := HMS.out
      have hnn : n ≤ 9223372036854775807 := by omega
      obtain ⟨sd, hsd⟩ : ∃ sd : Int, (saidI l : Int) = sd := ⟨_, rfl⟩
      rw [hsd] at hsaid hms
      have HR2 : Hid (decide (RtI (l.map (decN 1))) = true) := Lib.hid (decide_eq_true HRT2.out)
      have HA4 := Lib.hid HL.out.a
      simp only [e, hsd]
      clear hv hv2
      go_wp2_with (first
        | (go_at_call 18; (with_reducible refine (left_N _ HA4 hm HRT v HV).mono ?_); rintro e w4 ⟨rfl, hb⟩; have L4 := Lib.hid (HL.out.step hb); have HR4 := Lib.hid L4.out.r; clear hb)
        | (go_at_call 18; (with_reducible refine (left_N _ HR4 HML HRT2 v2 HV2).mono ?_); rintro e w5 ⟨rfl, hb⟩; have L5 := Lib.hid (L4.out.step hb); have C5 := trio_at L5.out.t; have HR5 := Lib.hid L5.out.r; clear hb)
        | (go_at_call 10; (with_reducible refine (right_N _ HR5 HML hnn).mono ?_); rintro e w6 ⟨hq, hb⟩; have he := retB_dec hq HR2.out; subst he; have L6 := Lib.hid (L5.out.step hb); clear hb hq)
        | fail)
      go_ret
      exact ⟨rfl, L6.out.b⟩
/-- ChainAll, at all arguments. -/
theorem chainAll_walk (v t : Value) (w : World) (h : ArgHds w v) (ht : ArgTal w t) : Calls Try.prog 5 #[v, t] w fun e w' => e = .returned (.bool true) ∧ Below w.heap.size w w' := by
  obtain ⟨ad, cap, l, rfl, hA, hn, _⟩ := h
  obtain ⟨c, m, o, rfl⟩ := ht
  by_cases hx : errI l c m o = 0
  · exact all_ok c m o w (Lib.hid hA) (Lib.hid rfl) (Lib.hid hx)
  · exact all_err c m o w (Lib.hid hA) (Lib.hid rfl) hn _ (Lib.hid rfl) (by simpa using hx)
end Go.Proofs.Ytdpfffifhkndlaa
