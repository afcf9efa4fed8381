/- The walk of ChainServes. -/
import Derived.Test.YtdpfffifhkndlaaChnF
import Derived.Test.YtdpfffifhkndlaaChnH
import Derived.Test.YtdpfffifhkndlaaChnO
namespace Go.Proofs.Ytdpfffifhkndlaa
open Go.RowKit

/-- The tallies of the law: the argument's, the two answers'. -/
structure Bv (w wx : World) (c1 m1 c2 m2 : Int) (o1 o2 : Bool) (B1 B2 : Nat) : Prop where
  b : Below w.heap.size w wx
  t1 : wx.heap[B1]? = some (.cells #[.int .i64 c1, .int .i64 m1, .bool o1] 24 (0, 0))
  t2 : wx.heap[B2]? = some (.cells #[.int .i64 c2, .int .i64 m2, .bool o2] 24 (0, 0))
theorem Bv.step {w wx wy : World} {c1 m1 c2 m2 : Int} {o1 o2 : Bool} {B1 B2 : Nat} (h : Bv w wx c1 m1 c2 m2 o1 o2 B1 B2) (hb : Below wx.heap.size wx wy) : Bv w wy c1 m1 c2 m2 o1 o2 B1 B2 := ⟨pstep h.b hb, heap_step h.t1 hb, heap_step h.t2 hb⟩
set_option maxHeartbeats 2000000 in
set_option maxRecDepth 100000 in
theorem serves_err {ad : Option Addr} {cap n : Nat} {l : List HdT} (c m : Int) (o : Bool) (w : World) (HA : Hid (shH.At w ad cap l)) (hm : Hid (l.length = n)) (hn : n ≤ 9223372036854775807) (x : Int) (hx : Hid (errI l c m o = x)) (hx0 : (x != 0) = true) :
    Calls Try.prog 3 #[.slice ad n cap, .agg #[.int .i64 c, .int .i64 m, .bool o]] w fun e w' => e = .returned (.bool true) ∧ Below w.heap.size w w' := by
  have heq : ∀ (x y : Int) (b : Bool) (w : World), (Op.equalIn 10000 24 (.agg #[.int .i64 x, .int .i64 y, .bool b]) (.agg #[.int .i64 x, .int .i64 y, .bool b])).run Try.prog w = .ok true w := eq_tally
  have B0 := Lib.hid (below_alloc w (.cells #[.int .i64 c, .int .i64 m, .bool o] 24))
  have T0 := Lib.hid (heap_alloc_new w (.cells #[.int .i64 c, .int .i64 m, .bool o] 24))
  have HA0 := Lib.hid (HA.out.step B0.out)
  have hl0 : Hid (([] : List HdT).length = 0) := Lib.hid rfl
  have hi0 : Hid (([] : List Int).length = 0) := Lib.hid rfl
  have hn0 : 0 ≤ 9223372036854775807 := by decide
  obtain ⟨r, hr⟩ : ∃ r, decide (RtI l) = r := ⟨_, rfl⟩
  have HR := Lib.hid hr
  clear hr
  go_enter Try.func3, Try.ntmps3
  go_wp2_with (first
    | (go_at_call 8; (with_reducible refine (serve_err c m o _ HA0 hm hn x hx hx0).mono ?_); rintro e w1 ⟨rfl, hb⟩; have B1 := Lib.hid (pstep (pstep B0.out hb) (below_alloc w1 (.cells #[.int .i64 0, .int .i64 0, .bool false] 24))); have T1 := trio_at (heap_step (heap_step T0.out hb) (below_alloc w1 (.cells #[.int .i64 0, .int .i64 0, .bool false] 24))); have U1 := Lib.hid (heap_alloc_new w1 (.cells #[.int .i64 0, .int .i64 0, .bool false] 24)); have HA1 := Lib.hid ((HA0.out.step hb).step (below_alloc w1 (.cells #[.int .i64 0, .int .i64 0, .bool false] 24))); clear hb)
    | (go_at_call 9; (with_reducible refine (iserve_err c m o _ HA1 hm hn x hx hx0).mono ?_); rintro e w2 ⟨rfl, hb⟩; have V2 : Hid (Bv w (w2.alloc (.cells #[.int .i64 0, .int .i64 0, .bool false] 24)) 0 0 0 0 false false w1.heap.size w2.heap.size) := Lib.hid ⟨pstep (pstep B1.out hb) (below_alloc w2 _), heap_step (heap_step U1.out hb) (below_alloc w2 _), heap_alloc_new w2 _⟩; have HA2 := Lib.hid ((HA1.out.step hb).step (below_alloc w2 (.cells #[.int .i64 0, .int .i64 0, .bool false] 24))); clear hb)
    | (go_at_call 10; (with_reducible refine (right_N _ HA2 hm hn).mono ?_); rintro e w3 ⟨hq, hb⟩; have he := retB_dec hq HR.out; subst he; have V3 := Lib.hid (V2.out.step hb); have HA3 := Lib.hid (HA2.out.step hb); clear hb hq)
    | (go_at_call 11; (with_reducible refine (iright_N _ HA3 hm hn).mono ?_); rintro e w4 ⟨hq, hb⟩; have he := retB_dec hq HR.out; subst he; have V4 := Lib.hid (V3.out.step hb); have N4 := Lib.hid (Shape.At.nil (S := shH) w4); clear hb hq)
    | (go_at_call 12; (with_reducible refine (equalH (l := []) _ hl0 N4 N4 hn0).mono ?_); rintro e w5 ⟨rfl, hb⟩; have V5 := Lib.hid (V4.out.step hb); have N5 := Lib.hid (Shape.At.nil (S := shI) w5); clear hb)
    | (go_at_call 13; (with_reducible refine (equalI (l := []) _ hi0 N5 N5 hn0).mono ?_); rintro e w6 ⟨rfl, hb⟩; have V6 := Lib.hid (V5.out.step hb); have C6 := trio_at V6.out.t1; have D6 := trio_at V6.out.t2; clear hb)
    | fail)
  go_ret
  exact ⟨rfl, V6.out.b⟩
set_option maxHeartbeats 2000000 in
set_option maxRecDepth 100000 in
theorem serves_ok {ad : Option Addr} {cap n : Nat} {l : List HdT} (c m : Int) (o : Bool) (w : World) (HA : Hid (shH.At w ad cap l)) (hm : Hid (l.length = n)) (hn : n ≤ 9223372036854775807) (hx : Hid (errI l c m o = 0)) :
    Calls Try.prog 3 #[.slice ad n cap, .agg #[.int .i64 c, .int .i64 m, .bool o]] w fun e w' => e = .returned (.bool true) ∧ Below w.heap.size w w' := by
  have heq : ∀ (x y : Int) (b : Bool) (w : World), (Op.equalIn 10000 24 (.agg #[.int .i64 x, .int .i64 y, .bool b]) (.agg #[.int .i64 x, .int .i64 y, .bool b])).run Try.prog w = .ok true w := eq_tally
  have B0 := Lib.hid (below_alloc w (.cells #[.int .i64 c, .int .i64 m, .bool o] 24))
  have T0 := Lib.hid (heap_alloc_new w (.cells #[.int .i64 c, .int .i64 m, .bool o] 24))
  have HA0 := Lib.hid (HA.out.step B0.out)
  obtain ⟨m', hm'⟩ : ∃ m', nobI m (decide (0 < mostI l)) = m' := ⟨_, rfl⟩
  obtain ⟨o', ho'⟩ : ∃ o', (m' == 5) = o' := ⟨_, rfl⟩
  have H1 := Lib.hid hm'
  have H2 := Lib.hid ho'
  have HML : Hid ((l.map (decN 1)).length = n) := Lib.hid (by rw [List.length_map]; exact hm.out)
  obtain ⟨q, hq⟩ : ∃ q, (wakI 0 0 l).length = q := ⟨_, rfl⟩
  have HWL : Hid ((intL (wakI 0 0 l)).length = q) := Lib.hid (by rw [intL_len]; exact hq)
  have hqn : q ≤ 9223372036854775807 := by have := wak_le 0 0 l; have := hm.out; omega
  have HR : Hid (decide (RtI l) = true) := Lib.hid (decide_eq_true (errI_zero hx.out).1)
  have HQ := Lib.hid hq
  clear hm' ho' hq
  go_enter Try.func3, Try.ntmps3
  go_wp2_with (first
    | (go_at_call 8; (with_reducible refine (serve_ok c m o _ HA0 hm hx m' o' H1 H2).mono ?_); rintro e w1 ⟨ra, rc, wa, wc, he, hA, hW, hb, _⟩; rw [HQ.out] at he; subst he; have B1 := Lib.hid (pstep (pstep B0.out hb) (below_alloc w1 (.cells #[.int .i64 (c + 1), .int .i64 m', .bool o'] 24))); have T1 := trio_at (heap_step (heap_step T0.out hb) (below_alloc w1 (.cells #[.int .i64 (c + 1), .int .i64 m', .bool o'] 24))); have U1 := Lib.hid (heap_alloc_new w1 (.cells #[.int .i64 (c + 1), .int .i64 m', .bool o'] 24)); have HA1 := Lib.hid ((HA0.out.step hb).step (below_alloc w1 (.cells #[.int .i64 (c + 1), .int .i64 m', .bool o'] 24))); have K1 := Lib.hid (hA.step (below_alloc w1 (.cells #[.int .i64 (c + 1), .int .i64 m', .bool o'] 24))); have W1 := Lib.hid (hW.step (below_alloc w1 (.cells #[.int .i64 (c + 1), .int .i64 m', .bool o'] 24))); clear hb hA hW)
    | (go_at_call 9; (with_reducible refine (iserve_ok c m o _ HA1 hm hx m' o' H1 H2).mono ?_); rintro e w2 ⟨ra2, rc2, wa2, wc2, he, hA, hW, hb⟩; rw [HQ.out] at he; subst he; have V2 : Hid (Bv w (w2.alloc (.cells #[.int .i64 (c + 1), .int .i64 m', .bool o'] 24)) (c + 1) m' (c + 1) m' o' o' w1.heap.size w2.heap.size) := Lib.hid ⟨pstep (pstep B1.out hb) (below_alloc w2 _), heap_step (heap_step U1.out hb) (below_alloc w2 _), heap_alloc_new w2 _⟩; have HA2 := Lib.hid ((HA1.out.step hb).step (below_alloc w2 (.cells #[.int .i64 (c + 1), .int .i64 m', .bool o'] 24))); have K2 := Lib.hid ((K1.out.step hb).step (below_alloc w2 (.cells #[.int .i64 (c + 1), .int .i64 m', .bool o'] 24))); have W2 := Lib.hid ((W1.out.step hb).step (below_alloc w2 (.cells #[.int .i64 (c + 1), .int .i64 m', .bool o'] 24))); have P2 := Lib.hid (hA.step (below_alloc w2 (.cells #[.int .i64 (c + 1), .int .i64 m', .bool o'] 24))); have R2 := Lib.hid (hW.step (below_alloc w2 (.cells #[.int .i64 (c + 1), .int .i64 m', .bool o'] 24))); clear hb hA hW)
    | (go_at_call 10; (with_reducible refine (right_N _ HA2 hm hn).mono ?_); rintro e w3 ⟨hq, hb⟩; have he := retB_dec hq HR.out; subst he; have V3 := Lib.hid (V2.out.step hb); have HA3 := Lib.hid (HA2.out.step hb); have K3 := Lib.hid (K2.out.step hb); have W3 := Lib.hid (W2.out.step hb); have P3 := Lib.hid (P2.out.step hb); have R3 := Lib.hid (R2.out.step hb); clear hb hq)
    | (go_at_call 11; (with_reducible refine (iright_N _ HA3 hm hn).mono ?_); rintro e w4 ⟨hq, hb⟩; have he := retB_dec hq HR.out; subst he; have V4 := Lib.hid (V3.out.step hb); have K4 := Lib.hid (K3.out.step hb); have W4 := Lib.hid (W3.out.step hb); have P4 := Lib.hid (P3.out.step hb); have R4 := Lib.hid (R3.out.step hb); clear hb hq)
    | (go_at_call 12; (with_reducible refine (equalH _ HML K4 P4 hn).mono ?_); rintro e w5 ⟨rfl, hb⟩; have V5 := Lib.hid (V4.out.step hb); have W5 := Lib.hid (W4.out.step hb); have R5 := Lib.hid (R4.out.step hb); clear hb)
    | (go_at_call 13; (with_reducible refine (equalI _ HWL W5 R5 hqn).mono ?_); rintro e w6 ⟨rfl, hb⟩; have V6 := Lib.hid (V5.out.step hb); have C6 := trio_at V6.out.t1; have D6 := trio_at V6.out.t2; clear hb)
    | fail)
  go_ret
  exact ⟨rfl, V6.out.b⟩
/-- ChainServes, at all arguments. -/
theorem chainServes_walk (v t : Value) (w : World) (h : ArgHds w v) (ht : ArgTal w t) : Calls Try.prog 3 #[v, t] w fun e w' => e = .returned (.bool true) ∧ Below w.heap.size w w' := by
  obtain ⟨ad, cap, l, rfl, hA, hn, _⟩ := h
  obtain ⟨c, m, o, rfl⟩ := ht
  by_cases hx : errI l c m o = 0
  · exact serves_ok c m o w (Lib.hid hA) (Lib.hid rfl) hn (Lib.hid hx)
  · exact serves_err c m o w (Lib.hid hA) (Lib.hid rfl) hn _ (Lib.hid rfl) (by simpa using hx)
end Go.Proofs.Ytdpfffifhkndlaa
