/- TtyReads: the walk. -/
import Derived.Test.YtomgifdnnfbpnaaDoorTyI
import Derived.Test.YtomgifdnnfbpnaaDoorTyO
import Derived.Test.YtomgifdnnfbpnaaDoorConL
import Derived.Test.YtomgifdnnfbpnaaDoorHldM
namespace Go.Proofs.YtomgifdnnfbpnaaDoor
open Go.RowKit

theorem good_restQ {s : StQ} (h : GoodQ s) (m : Nat) : GoodQ (restQ s m) := by
  obtain ⟨ls, e⟩ := s
  cases ls with
  | nil => exact h
  | cons l r =>
    have h1 := h.many
    have h2 := h.lens
    simp only [List.length_cons] at h1
    simp only [restQ]
    refine ⟨h.edit, ?_, fun x hx => ?_⟩
    · simp only
      split
      · simp only [List.length_cons]; omega
      · omega
    · simp only at hx
      split at hx
      · rcases List.mem_cons.1 hx with rfl | hx
        · have := h2 l List.mem_cons_self
          rw [List.length_drop]
          omega
        · exact h2 x (List.mem_cons_of_mem _ hx)
      · exact h2 x (List.mem_cons_of_mem _ hx)
theorem resR_ok {s : StQ} (h : GoodQ s) {a : Int} (ha : ¬ a < 1) (hl : ¬ s.lines = []) : resR s a = (restQ s a.toNat, gotQ s a.toNat, 0) := by
  unfold resR
  rw [if_pos (good_rgt h), if_neg ha, if_neg hl]
theorem resR_form {s : StQ} (h : rgtQ s.lines s.lines.length s.edit.length = false) (a : Int) : resR s a = (newQ, [], 1) := by
  unfold resR
  rw [if_neg (by rw [h]; simp)]
/-- What is in memory behind the three reads: two boxes, what they hold; what was read. -/
structure Rw (w W : World) (B C n m k1 k2 k3 : Nat) (ya yb za zb p1 p2 p3 : Option Addr) (yc yd zc zd c1 c2 c3 : Nat) (s : StQ) (g1 g2 g3 : List UInt8) : Prop where
  b : Below w.heap.size w W
  y : W.heap[B]? = some (.cells #[.slice ya n yc, .slice yb m yd] tT (0, 0))
  z : W.heap[C]? = some (.cells #[.slice za n zc, .slice zb m zd] tT (0, 0))
  y1 : LnsAt W ya yc s.lines
  y2 : shB.At W yb yd s.edit
  z1 : LnsAt W za zc s.lines
  z2 : shB.At W zb zd s.edit
  g1 : shB.At W p1 c1 g1
  g2 : shB.At W p2 c2 g2
  g3 : shB.At W p3 c3 g3
section
variable {w W W' : World} {B C n m k1 k2 k3 : Nat} {ya yb za zb p1 p2 p3 : Option Addr} {yc yd zc zd c1 c2 c3 : Nat} {s : StQ} {g1 g2 g3 : List UInt8}
theorem Rw.step (h : Rw w W B C n m k1 k2 k3 ya yb za zb p1 p2 p3 yc yd zc zd c1 c2 c3 s g1 g2 g3) (hb : Below W.heap.size W W') : Rw w W' B C n m k1 k2 k3 ya yb za zb p1 p2 p3 yc yd zc zd c1 c2 c3 s g1 g2 g3 :=
  ⟨pstep h.b hb, heap_step h.y hb, heap_step h.z hb, h.y1.step hb, h.y2.step hb, h.z1.step hb, h.z2.step hb, h.g1.step hb, h.g2.step hb, h.g3.step hb⟩
theorem Rw.alloc (h : Rw w W B C n m k1 k2 k3 ya yb za zb p1 p2 p3 yc yd zc zd c1 c2 c3 s g1 g2 g3) (A : Obj) : Rw w (W.alloc A).drew B C n m k1 k2 k3 ya yb za zb p1 p2 p3 yc yd zc zd c1 c2 c3 s g1 g2 g3 := h.step ((below_alloc W A).drew)
theorem Rw.drew (h : Rw w W B C n m k1 k2 k3 ya yb za zb p1 p2 p3 yc yd zc zd c1 c2 c3 s g1 g2 g3) : Rw w W.drew B C n m k1 k2 k3 ya yb za zb p1 p2 p3 yc yd zc zd c1 c2 c3 s g1 g2 g3 := h.step ((Below.refl _ _).drew)
theorem Rw.all (hk : Hid (g3.length = k3)) (h : Rw w W B C n m k1 k2 k3 ya yb za zb p1 p2 p3 yc yd zc zd c1 c2 c3 s g1 g2 g3) : Rw w W B C n m k1 k2 k3 ya yb za zb p1 p2 p3 yc yd zc zd c1 c2 c3 s g1 g2 g3 ∧ (convert 23 9 (.slice p3 k3 c3)).run Tryd.prog W = .ok (.string (strB g3)) W ∧ (W.cell? ⟨B, 0, none⟩ = some (.slice ya n yc) ∧ W.cell? ⟨B, 1, none⟩ = some (.slice yb m yd)) ∧ W.cell? ⟨C, 0, none⟩ = some (.slice za n zc) ∧ W.cell? ⟨C, 1, none⟩ = some (.slice zb m zd) :=
  ⟨h, conv_at h.g3 hk.out, pair_at h.y, pair_at h.z⟩
end
set_option maxHeartbeats 4000000 in
set_option maxRecDepth 100000 in
theorem reads_s0 {la ea : Option Addr} {n lc m ec : Nat} (a b : Int) (w : World) (h : a < 1) :
    Calls Tryd.prog 8 #[.agg #[.slice la n lc, .slice ea m ec], .int .i64 a, .int .i64 b] w fun e w' => e = .returned (.bool true) ∧ Below w.heap.size w w' := by
  have d0 : decide (a < 1) = true := decide_eq_true h
  have B0 := Lib.hid (below_alloc w (.cells #[.slice la n lc, .slice ea m ec] 25))
  have D0 := Lib.hid (heap_alloc_new w (.cells #[.slice la n lc, .slice ea m ec] 25))
  go_enter Tryd.func8, Tryd.ntmps8
  go_wp2_with (first
    | (go_at_call 18; (with_reducible refine (alive17_N _).mono ?_); rintro e w1 ⟨rfl, hb⟩; have B1 := Lib.hid (pstep B0.out hb); have D1 := Lib.hid (heap_step D0.out hb); have G1 := pair_at D1.out; have l1 := heap_lt D1.out; clear hb)
    | fail)
  go_ret
  exact ⟨rfl, B1.out⟩
set_option maxHeartbeats 4000000 in
set_option maxRecDepth 100000 in
theorem reads_s1 {la ea : Option Addr} {n lc m ec : Nat} (a b : Int) (w : World) (h0 : ¬ a < 1) (h : b < 1) :
    Calls Tryd.prog 8 #[.agg #[.slice la n lc, .slice ea m ec], .int .i64 a, .int .i64 b] w fun e w' => e = .returned (.bool true) ∧ Below w.heap.size w w' := by
  have d0 : decide (a < 1) = false := decide_eq_false h0
  have d1 : decide (b < 1) = true := decide_eq_true h
  have B0 := Lib.hid (below_alloc w (.cells #[.slice la n lc, .slice ea m ec] 25))
  have D0 := Lib.hid (heap_alloc_new w (.cells #[.slice la n lc, .slice ea m ec] 25))
  go_enter Tryd.func8, Tryd.ntmps8
  go_wp2_with (first
    | (go_at_call 18; (with_reducible refine (alive17_N _).mono ?_); rintro e w1 ⟨rfl, hb⟩; have B1 := Lib.hid (pstep B0.out hb); have D1 := Lib.hid (heap_step D0.out hb); have G1 := pair_at D1.out; have l1 := heap_lt D1.out; clear hb)
    | fail)
  go_ret
  exact ⟨rfl, B1.out⟩
set_option maxHeartbeats 4000000 in
set_option maxRecDepth 100000 in
theorem reads_s2 {la ea : Option Addr} {n lc m ec : Nat} (a b : Int) (w : World) (h0 : ¬ a < 1) (h1 : ¬ b < 1) (h : a > 100) :
    Calls Tryd.prog 8 #[.agg #[.slice la n lc, .slice ea m ec], .int .i64 a, .int .i64 b] w fun e w' => e = .returned (.bool true) ∧ Below w.heap.size w w' := by
  have d0 : decide (a < 1) = false := decide_eq_false h0
  have d1 : decide (b < 1) = false := decide_eq_false h1
  have d2 : decide (a > 100) = true := decide_eq_true h
  have B0 := Lib.hid (below_alloc w (.cells #[.slice la n lc, .slice ea m ec] 25))
  have D0 := Lib.hid (heap_alloc_new w (.cells #[.slice la n lc, .slice ea m ec] 25))
  go_enter Tryd.func8, Tryd.ntmps8
  go_wp2_with (first
    | (go_at_call 18; (with_reducible refine (alive17_N _).mono ?_); rintro e w1 ⟨rfl, hb⟩; have B1 := Lib.hid (pstep B0.out hb); have D1 := Lib.hid (heap_step D0.out hb); have G1 := pair_at D1.out; have l1 := heap_lt D1.out; clear hb)
    | fail)
  go_ret
  exact ⟨rfl, B1.out⟩
set_option maxHeartbeats 4000000 in
set_option maxRecDepth 100000 in
theorem reads_s3 {la ea : Option Addr} {n lc m ec : Nat} (a b : Int) (w : World) (h0 : ¬ a < 1) (h1 : ¬ b < 1) (h2 : ¬ a > 100) (h : b > 100) :
    Calls Tryd.prog 8 #[.agg #[.slice la n lc, .slice ea m ec], .int .i64 a, .int .i64 b] w fun e w' => e = .returned (.bool true) ∧ Below w.heap.size w w' := by
  have d0 : decide (a < 1) = false := decide_eq_false h0
  have d1 : decide (b < 1) = false := decide_eq_false h1
  have d2 : decide (a > 100) = false := decide_eq_false h2
  have d3 : decide (b > 100) = true := decide_eq_true h
  have B0 := Lib.hid (below_alloc w (.cells #[.slice la n lc, .slice ea m ec] 25))
  have D0 := Lib.hid (heap_alloc_new w (.cells #[.slice la n lc, .slice ea m ec] 25))
  go_enter Tryd.func8, Tryd.ntmps8
  go_wp2_with (first
    | (go_at_call 18; (with_reducible refine (alive17_N _).mono ?_); rintro e w1 ⟨rfl, hb⟩; have B1 := Lib.hid (pstep B0.out hb); have D1 := Lib.hid (heap_step D0.out hb); have G1 := pair_at D1.out; have l1 := heap_lt D1.out; clear hb)
    | fail)
  go_ret
  exact ⟨rfl, B1.out⟩
set_option maxHeartbeats 4000000 in
set_option maxRecDepth 100000 in
theorem reads_s4 {la ea : Option Addr} {lc m ec : Nat} (a b : Int) (w : World) (h0 : ¬ a < 1) (h1 : ¬ b < 1) (h2 : ¬ a > 100) (h3 : ¬ b > 100) :
    Calls Tryd.prog 8 #[.agg #[.slice la 0 lc, .slice ea m ec], .int .i64 a, .int .i64 b] w fun e w' => e = .returned (.bool true) ∧ Below w.heap.size w w' := by
  have d0 : decide (a < 1) = false := decide_eq_false h0
  have d1 : decide (b < 1) = false := decide_eq_false h1
  have d2 : decide (a > 100) = false := decide_eq_false h2
  have d3 : decide (b > 100) = false := decide_eq_false h3
  have B0 := Lib.hid (below_alloc w (.cells #[.slice la 0 lc, .slice ea m ec] 25))
  have D0 := Lib.hid (heap_alloc_new w (.cells #[.slice la 0 lc, .slice ea m ec] 25))
  go_enter Tryd.func8, Tryd.ntmps8
  go_wp2_with (first
    | (go_at_call 18; (with_reducible refine (alive17_N _).mono ?_); rintro e w1 ⟨rfl, hb⟩; have B1 := Lib.hid (pstep B0.out hb); have D1 := Lib.hid (heap_step D0.out hb); have G1 := pair_at D1.out; have l1 := heap_lt D1.out; clear hb)
    | fail)
  go_ret
  exact ⟨rfl, B1.out⟩
set_option maxHeartbeats 4000000 in
set_option maxRecDepth 100000 in
theorem reads_s5 {la ea : Option Addr} {j lc m ec : Nat} {l : List UInt8} {r : List (List UInt8)} (a b : Int) (w : World) (HL : Hid (LnsAt w la lc (l :: r))) (h0 : ¬ a < 1) (h1 : ¬ b < 1) (h2 : ¬ a > 100) (h3 : ¬ b > 100) (y : Nat) (hy : l.length = y) (h : a ≥ (y : Int)) :
    Calls Tryd.prog 8 #[.agg #[.slice la (j + 1) lc, .slice ea m ec], .int .i64 a, .int .i64 b] w fun e w' => e = .returned (.bool true) ∧ Below w.heap.size w w' := by
  have d0 : decide (a < 1) = false := decide_eq_false h0
  have d1 : decide (b < 1) = false := decide_eq_false h1
  have d2 : decide (a > 100) = false := decide_eq_false h2
  have d3 : decide (b > 100) = false := decide_eq_false h3
  have d4 : decide (a ≥ (y : Int)) = true := decide_eq_true h
  have hn0 : (((j + 1 : Nat) : Int) == 0) = false := by simp; omega
  obtain ⟨lb, lo, fa, fc, rfl, hlb, hlc, _⟩ := at_line HL.out (k := 0) (l := l) rfl
  rw [Nat.add_zero, hy] at hlc
  have B0 := Lib.hid (below_alloc w (.cells #[.slice (some ⟨lb, lo, none⟩) (j + 1) lc, .slice ea m ec] 25))
  have D0 := Lib.hid (heap_alloc_new w (.cells #[.slice (some ⟨lb, lo, none⟩) (j + 1) lc, .slice ea m ec] 25))
  go_enter Tryd.func8, Tryd.ntmps8
  go_wp2_with (first
    | (go_at_call 18; (with_reducible refine (alive17_N _).mono ?_); rintro e w1 ⟨rfl, hb⟩; have B1 := Lib.hid (pstep B0.out hb); have D1 := Lib.hid (heap_step D0.out hb); have G1 := pair_at D1.out; have l1 := heap_lt D1.out; have hlc1 := (B1.out.cell (p := ⟨lb, lo, none⟩) hlb).trans hlc; have hlb1 := Nat.lt_of_lt_of_le hlb B1.out.size; clear hb)
    | fail)
  go_ret
  exact ⟨rfl, B1.out⟩
set_option maxHeartbeats 4000000 in
set_option maxRecDepth 100000 in
theorem reads_err {la ea : Option Addr} {j lc m ec : Nat} {l : List UInt8} {r : List (List UInt8)} {edit : List UInt8} (a b : Int) (w : World) (HL : Hid (LnsAt w la lc (l :: r))) (HE : Hid (shB.At w ea ec edit)) (h0 : ¬ a < 1) (h1 : ¬ b < 1) (h2 : ¬ a > 100) (h3 : ¬ b > 100) (y : Nat) (hy : l.length = y) (h4 : ¬ a ≥ (y : Int)) (N1 M1 K1 N2 M2 K2 N3 M3 K3 : Nat) (S1 S2 S3 : StQ) (g1 g2 g3 : List UInt8) (e1 e2 e3 : Int)
    (RD1 : Hid (∀ W, Hid (LnsAt W la lc (l :: r)) → Hid (shB.At W ea ec edit) → Calls Tryd.prog 11 #[.agg #[.slice la (j + 1) lc, .slice ea m ec], .int .i64 a] W (ReadOut W N1 M1 K1 S1 g1 e1)))
    (RD2 : Hid (∀ W la lc ea ec, Hid (LnsAt W la lc S1.lines) → Hid (shB.At W ea ec S1.edit) → Calls Tryd.prog 11 #[.agg #[.slice la N1 lc, .slice ea M1 ec], .int .i64 b] W (ReadOut W N2 M2 K2 S2 g2 e2)))
    (RD3 : Hid (∀ W, Hid (LnsAt W la lc (l :: r)) → Hid (shB.At W ea ec edit) → Calls Tryd.prog 11 #[.agg #[.slice la (j + 1) lc, .slice ea m ec], .int .i64 (a + b)] W (ReadOut W N3 M3 K3 S3 g3 e3))) (hE : ¬ e3 = 0) (h13 : e1 = e3) :
    Calls Tryd.prog 8 #[.agg #[.slice la (j + 1) lc, .slice ea m ec], .int .i64 a, .int .i64 b] w fun e w' => e = .returned (.bool true) ∧ Below w.heap.size w w' := by
  have d0 : decide (a < 1) = false := decide_eq_false h0
  have d1 : decide (b < 1) = false := decide_eq_false h1
  have d2 : decide (a > 100) = false := decide_eq_false h2
  have d3 : decide (b > 100) = false := decide_eq_false h3
  have d4 : decide (a ≥ (y : Int)) = false := decide_eq_false h4
  have hn0 : (((j + 1 : Nat) : Int) == 0) = false := by simp; omega
  obtain ⟨lb, lo, fa, fc, rfl, hlb, hlc, _⟩ := at_line HL.out (k := 0) (l := l) rfl
  rw [Nat.add_zero, hy] at hlc
  have ws : IntKind.i64.wrap (a + b) = a + b := by rw [IntKind.wrap_i64]; omega
  have hne : (e3 != 0) = true := by simpa using hE
  subst h13
  have B0 := Lib.hid (below_alloc w (.cells #[.slice (some ⟨lb, lo, none⟩) (j + 1) lc, .slice ea m ec] 25))
  have D0 := Lib.hid (heap_alloc_new w (.cells #[.slice (some ⟨lb, lo, none⟩) (j + 1) lc, .slice ea m ec] 25))
  go_enter Tryd.func8, Tryd.ntmps8
  go_wp2_with (first
    | (go_at_call 18; (with_reducible refine (alive17_N _).mono ?_); rintro e w1 ⟨rfl, hb⟩; have B1 := Lib.hid (pstep B0.out hb); have D1 := Lib.hid (heap_step D0.out hb); have G1 := pair_at D1.out; have l1 := heap_lt D1.out; have hlc1 := (B1.out.cell (p := ⟨lb, lo, none⟩) hlb).trans hlc; have hlb1 := Nat.lt_of_lt_of_le hlb B1.out.size; have L1 := Lib.hid (HL.out.step B1.out); have E1 := Lib.hid (HE.out.step B1.out); clear hb)
    | (go_at_call 11; (with_reducible refine (RD1.out _ L1 E1).mono ?_); rintro e w2 ⟨xa, xc, xb, xd, pa, pc, rfl, q1, q2, q3, hb⟩; have bl := below_alloc w2 (.cells #[.slice xa N1 xc, .slice xb M1 xd] 25); have X1 := Lib.hid (q1.step bl); have X2 := Lib.hid (q2.step bl); have X3 := Lib.hid (q3.step bl); have B2 := Lib.hid (pstep (pstep B1.out hb) bl); have D2 := Lib.hid (heap_step (heap_step D1.out hb) bl); have V2 := Lib.hid (heap_alloc_new w2 (.cells #[.slice xa N1 xc, .slice xb M1 xd] 25)); clear q1 q2 q3 hb bl)
    | (go_at_call 11; (with_reducible refine (RD2.out _ _ _ _ _ X1 X2).mono ?_); rintro e w3 ⟨ya, yc, yb, yd, qa, qc, rfl, q1, q2, q3, hb⟩; have bl := below_alloc w3 (.cells #[.slice ya N2 yc, .slice yb M2 yd] 25); have Y1 := Lib.hid (q1.step bl); have Y2 := Lib.hid (q2.step bl); have Y3 := Lib.hid (q3.step bl); have P3 := Lib.hid ((X3.out.step hb).step bl); have B3 := Lib.hid (pstep (pstep B2.out hb) bl); have D3 := Lib.hid (heap_step (heap_step D2.out hb) bl); have V3 := Lib.hid (heap_alloc_new w3 (.cells #[.slice ya N2 yc, .slice yb M2 yd] 25)); have L3 := Lib.hid (HL.out.step B3.out); have E3 := Lib.hid (HE.out.step B3.out); have G3 := pair_at D3.out; have l3 := heap_lt D3.out; clear q1 q2 q3 hb bl)
    | (go_at_call 11; (with_reducible refine (RD3.out _ L3 E3).mono ?_); rintro e w4 ⟨za, zc, zb, zd, ra, rc, rfl, q1, q2, q3, hb⟩; have bl := below_alloc w4 (.cells #[.slice za N3 zc, .slice zb M3 zd] 25); have Z1 := Lib.hid (q1.step bl); have Z2 := Lib.hid (q2.step bl); have Z3 := Lib.hid (q3.step bl); have P4 := Lib.hid ((P3.out.step hb).step bl); have Q4 := Lib.hid ((Y3.out.step hb).step bl); have Y14 := Lib.hid ((Y1.out.step hb).step bl); have Y24 := Lib.hid ((Y2.out.step hb).step bl); have B4 := Lib.hid (pstep (pstep B3.out hb) bl); have V34 := Lib.hid (heap_step (heap_step V3.out hb) bl); have V4 := Lib.hid (heap_alloc_new w4 (.cells #[.slice za N3 zc, .slice zb M3 zd] 25)); clear q1 q2 q3 hb bl)
    | fail)
  go_ret
  exact ⟨rfl, B4.out⟩
set_option maxHeartbeats 4000000 in
set_option maxRecDepth 100000 in
theorem reads_ok {la ea : Option Addr} {j lc m ec : Nat} {l : List UInt8} {r : List (List UInt8)} {edit : List UInt8} (a b : Int) (w : World) (HL : Hid (LnsAt w la lc (l :: r))) (HE : Hid (shB.At w ea ec edit)) (h0 : ¬ a < 1) (h1 : ¬ b < 1) (h2 : ¬ a > 100) (h3 : ¬ b > 100) (y : Nat) (hy : l.length = y) (h4 : ¬ a ≥ (y : Int)) (N1 M1 K1 N2 M2 K2 K3 : Nat) (S1 S2 : StQ) (g1 g2 g3 : List UInt8)
    (RD1 : Hid (∀ W, Hid (LnsAt W la lc (l :: r)) → Hid (shB.At W ea ec edit) → Calls Tryd.prog 11 #[.agg #[.slice la (j + 1) lc, .slice ea m ec], .int .i64 a] W (ReadOut W N1 M1 K1 S1 g1 0)))
    (RD2 : Hid (∀ W la lc ea ec, Hid (LnsAt W la lc S1.lines) → Hid (shB.At W ea ec S1.edit) → Calls Tryd.prog 11 #[.agg #[.slice la N1 lc, .slice ea M1 ec], .int .i64 b] W (ReadOut W N2 M2 K2 S2 g2 0)))
    (RD3 : Hid (∀ W, Hid (LnsAt W la lc (l :: r)) → Hid (shB.At W ea ec edit) → Calls Tryd.prog 11 #[.agg #[.slice la (j + 1) lc, .slice ea m ec], .int .i64 (a + b)] W (ReadOut W N2 M2 K3 S2 g3 0))) (hk1 : Hid (g1.length = K1)) (hk2 : Hid (g2.length = K2)) (hk3 : Hid (g3.length = K3)) (h12 : Hid (g1 ++ g2 = g3)) (hN : Hid (S2.lines.length = N2)) (hM : Hid (S2.edit.length = M2)) (hN4 : N2 ≤ 400) (hK : K3 ≤ 65) :
    Calls Tryd.prog 8 #[.agg #[.slice la (j + 1) lc, .slice ea m ec], .int .i64 a, .int .i64 b] w fun e w' => e = .returned (.bool true) ∧ Below w.heap.size w w' := by
  have d0 : decide (a < 1) = false := decide_eq_false h0
  have d1 : decide (b < 1) = false := decide_eq_false h1
  have d2 : decide (a > 100) = false := decide_eq_false h2
  have d3 : decide (b > 100) = false := decide_eq_false h3
  have d4 : decide (a ≥ (y : Int)) = false := decide_eq_false h4
  have hn0 : (((j + 1 : Nat) : Int) == 0) = false := by simp; omega
  obtain ⟨lb, lo, fa, fc, rfl, hlb, hlc, _⟩ := at_line HL.out (k := 0) (l := l) rfl
  rw [Nat.add_zero, hy] at hlc
  have ws : IntKind.i64.wrap (a + b) = a + b := by rw [IntKind.wrap_i64]; omega
  have B0 := Lib.hid (below_alloc w (.cells #[.slice (some ⟨lb, lo, none⟩) (j + 1) lc, .slice ea m ec] 25))
  have D0 := Lib.hid (heap_alloc_new w (.cells #[.slice (some ⟨lb, lo, none⟩) (j + 1) lc, .slice ea m ec] 25))
  go_enter Tryd.func8, Tryd.ntmps8
  go_upto_region 10 with (first
    | (go_at_call 18; (with_reducible refine (alive17_N _).mono ?_); rintro e w1 ⟨rfl, hb⟩; have B1 := Lib.hid (pstep B0.out hb); have D1 := Lib.hid (heap_step D0.out hb); have G1 := pair_at D1.out; have l1 := heap_lt D1.out; have hlc1 := (B1.out.cell (p := ⟨lb, lo, none⟩) hlb).trans hlc; have hlb1 := Nat.lt_of_lt_of_le hlb B1.out.size; have L1 := Lib.hid (HL.out.step B1.out); have E1 := Lib.hid (HE.out.step B1.out); clear hb)
    | (go_at_call 11; (with_reducible refine (RD1.out _ L1 E1).mono ?_); rintro e w2 ⟨xa, xc, xb, xd, pa, pc, rfl, q1, q2, q3, hb⟩; have bl := below_alloc w2 (.cells #[.slice xa N1 xc, .slice xb M1 xd] 25); have X1 := Lib.hid (q1.step bl); have X2 := Lib.hid (q2.step bl); have X3 := Lib.hid (q3.step bl); have B2 := Lib.hid (pstep (pstep B1.out hb) bl); have D2 := Lib.hid (heap_step (heap_step D1.out hb) bl); have V2 := Lib.hid (heap_alloc_new w2 (.cells #[.slice xa N1 xc, .slice xb M1 xd] 25)); clear q1 q2 q3 hb bl)
    | (go_at_call 11; (with_reducible refine (RD2.out _ _ _ _ _ X1 X2).mono ?_); rintro e w3 ⟨ya, yc, yb, yd, qa, qc, rfl, q1, q2, q3, hb⟩; have bl := below_alloc w3 (.cells #[.slice ya N2 yc, .slice yb M2 yd] 25); have Y1 := Lib.hid (q1.step bl); have Y2 := Lib.hid (q2.step bl); have Y3 := Lib.hid (q3.step bl); have P3 := Lib.hid ((X3.out.step hb).step bl); have B3 := Lib.hid (pstep (pstep B2.out hb) bl); have D3 := Lib.hid (heap_step (heap_step D2.out hb) bl); have V3 := Lib.hid (heap_alloc_new w3 (.cells #[.slice ya N2 yc, .slice yb M2 yd] 25)); have L3 := Lib.hid (HL.out.step B3.out); have E3 := Lib.hid (HE.out.step B3.out); have G3 := pair_at D3.out; have l3 := heap_lt D3.out; clear q1 q2 q3 hb bl)
    | (go_at_call 11; (with_reducible refine (RD3.out _ L3 E3).mono ?_); rintro e w4 ⟨za, zc, zb, zd, ra, rc, rfl, q1, q2, q3, hb⟩; have bl := below_alloc w4 (.cells #[.slice za N2 zc, .slice zb M2 zd] 25); have Z1 := Lib.hid (q1.step bl); have Z2 := Lib.hid (q2.step bl); have Z3 := Lib.hid (q3.step bl); have P4 := Lib.hid ((P3.out.step hb).step bl); have Q4 := Lib.hid ((Y3.out.step hb).step bl); have Y14 := Lib.hid ((Y1.out.step hb).step bl); have Y24 := Lib.hid ((Y2.out.step hb).step bl); have B4 := Lib.hid (pstep (pstep B3.out hb) bl); have V34 := Lib.hid (heap_step (heap_step V3.out hb) bl); have V4 := Lib.hid (heap_alloc_new w4 (.cells #[.slice za N2 zc, .slice zb M2 zd] 25)); clear q1 q2 q3 hb bl)
    | fail)
  have R4 : Hid (Rw w (w4.alloc (.cells #[.slice za N2 zc, .slice zb M2 zd] 25)) w3.heap.size w4.heap.size N2 M2 K1 K2 K3 ya yb za zb pa qa ra yc yd zc zd pc qc rc S2 g1 g2 g3) := Lib.hid ⟨B4.out, V34.out, V4.out, Y14.out, Y24.out, Z1.out, Z2.out, P4.out, Q4.out, Z3.out⟩
  clear G1 l1 hlc1 hlb1 L1 E1 B1 D1 X1 X2 X3 B2 D2 V2 Y1 Y2 Y3 P3 B3 D3 V3 L3 E3 G3 l3 Z1 Z2 Z3 P4 Q4 Y14 Y24 B4 V34 V4 B0 D0 RD1 RD2 RD3 HL HE hlc hlb
  generalize w4.alloc (.cells #[.slice za N2 zc, .slice zb M2 zd] 25) = w5 at R4 ⊢
  generalize w3.heap.size = B at R4 ⊢
  generalize w4.heap.size = C at R4 ⊢
  have PSd := R4.out.drew
  have PSa := R4.out.alloc (.cells #[.slice pa K1 pc, .slice qa K2 qc] 23)
  have LL : Hid (LnsAt (w5.alloc (.cells #[.slice pa K1 pc, .slice qa K2 qc] 23)).drew (some ⟨w5.heap.size, 0, none⟩) 2 [g1, g2]) := Lib.hid ((lns_two w5 R4.out.g1 hk1.out R4.out.g2 hk2.out 2).step ((Below.refl _ _).drew))
  have sl : ∀ l, (strB l).toList = l := strB_list
  have hT : Hid (sumL [g1, g2] = K3) := Lib.hid (by rw [sumL_flat, ← hk3.out, ← h12.out]; simp)
  have h12' : [g1, g2].flatten = g3 := by rw [← h12.out]; simp
  have hcc := concat_L (k := 2) _ LL (Lib.hid rfl) (by decide) K3 hT (by omega)
  rw [h12'] at hcc
  have HC := Lib.hid hcc
  clear hcc h12'
  refine wp_region_noPanic ?_
  refine wp_region_held_drew (S := fun w' => Rw w w' B C N2 M2 K1 K2 K3 ya yb za zb pa qa ra yc yd zc zd pc qc rc S2 g1 g2 g3 ∧ (convert 23 9 (.slice ra K3 rc)).run Tryd.prog w' = .ok (.string (strB g3)) w' ∧ (w'.cell? ⟨B, 0, none⟩ = some (.slice ya N2 yc) ∧ w'.cell? ⟨B, 1, none⟩ = some (.slice yb M2 yd)) ∧ w'.cell? ⟨C, 0, none⟩ = some (.slice za N2 zc) ∧ w'.cell? ⟨C, 1, none⟩ = some (.slice zb M2 zd)) (by kernel_rfl) (PSd.all hk3) (fun hHeld => ?_)
  refine wpAnyH_take (i := 0) (v := ?_) rfl (by kernel_rfl) (by kernel_rfl) (by kernel_rfl) (fun _ _ _ h => h) (Or.inl ⟨by rfl, ?_⟩) (by assumption) ?_
  rotate_left
  · (intro wz hSw; (try dsimp only at hSw); go_simp; try with_reducible rfl)
  try simp only [List.getElem_toArray, List.getElem_cons_zero, Act.put, List.setIfInBounds_toArray, List.set_cons_zero, List.set_cons_succ]
  refine wpAnyH_take (i := 1) (v := ?_) rfl (by kernel_rfl) (by kernel_rfl) (by kernel_rfl) (fun _ _ _ h => h) (Or.inl ⟨by rfl, ?_⟩) (by assumption) ?_
  rotate_left
  · (intro wz hSw; (try dsimp only at hSw); go_simp; try with_reducible rfl)
  try simp only [List.getElem_toArray, List.getElem_cons_zero, List.getElem_cons_succ, Act.put, List.setIfInBounds_toArray, List.set_cons_zero, List.set_cons_succ]
  refine wpAnyH_take (i := 2) (v := ?_) rfl (by kernel_rfl) (by kernel_rfl) (by kernel_rfl) (fun _ _ _ h => h) (Or.inl ⟨by rfl, ?_⟩) (by assumption) ?_
  rotate_left
  · (intro wz hSw; (try dsimp only at hSw); go_simp; try with_reducible rfl)
  try simp only [List.getElem_toArray, List.getElem_cons_zero, List.getElem_cons_succ, Act.put, List.setIfInBounds_toArray, List.set_cons_zero, List.set_cons_succ]
  refine wpAnyH_take (i := 3) (v := ?_) rfl (by kernel_rfl) (by kernel_rfl) (by kernel_rfl) (fun _ _ _ h => h) (Or.inl ⟨by rfl, ?_⟩) (by assumption) ?_
  rotate_left
  · (intro wz hSw; (try dsimp only at hSw); go_simp; try with_reducible rfl)
  try simp only [List.getElem_toArray, List.getElem_cons_zero, List.getElem_cons_succ, Act.put, List.setIfInBounds_toArray, List.set_cons_zero, List.set_cons_succ]
  refine wpAnyH_take (i := 4) (v := ?_) rfl (by kernel_rfl) (by kernel_rfl) (by kernel_rfl) (fun _ _ _ h => h) (Or.inl ⟨by rfl, ?_⟩) (by assumption) ?_
  rotate_left
  · (intro wz hSw; (try dsimp only at hSw); go_simp; try with_reducible rfl)
  try simp only [List.getElem_toArray, List.getElem_cons_zero, List.getElem_cons_succ, Act.put, List.setIfInBounds_toArray, List.set_cons_zero, List.set_cons_succ]
  refine wpAnyH_take (i := 5) (v := ?_) rfl (by kernel_rfl) (by kernel_rfl) (by kernel_rfl) (fun _ _ _ h => h) (Or.inl ⟨by rfl, ?_⟩) (by assumption) ?_
  rotate_left
  · (intro wz hSw; (try dsimp only at hSw); go_simp; try with_reducible rfl)
  try simp only [List.getElem_toArray, List.getElem_cons_zero, List.getElem_cons_succ, Act.put, List.setIfInBounds_toArray, List.set_cons_zero, List.set_cons_succ]
  refine wpAnyH_take (i := 6) (v := ?_) rfl (by kernel_rfl) (by kernel_rfl) (by kernel_rfl) (fun _ _ _ h => h) (Or.inl ⟨by rfl, ?_⟩) (by assumption) ?_
  rotate_left
  · (intro wz hSw; (try dsimp only at hSw); go_simp; try with_reducible rfl)
  try simp only [List.getElem_toArray, List.getElem_cons_zero, List.getElem_cons_succ, Act.put, List.setIfInBounds_toArray, List.set_cons_zero, List.set_cons_succ]
  refine wpAnyH_take (i := 7) (v := ?_) rfl (by kernel_rfl) (by kernel_rfl) (by kernel_rfl) (fun _ _ _ h => h) (Or.inl ⟨by rfl, ?_⟩) (by assumption) ?_
  rotate_left
  · (intro wz hSw; (try dsimp only at hSw); go_simp; try with_reducible rfl)
  try simp only [List.getElem_toArray, List.getElem_cons_zero, List.getElem_cons_succ, Act.put, List.setIfInBounds_toArray, List.set_cons_zero, List.set_cons_succ]
  refine wpAnyH_take (i := 8) (v := ?_) rfl (by kernel_rfl) (by kernel_rfl) (by kernel_rfl) (fun _ _ _ h => h) (Or.inl ⟨by rfl, ?_⟩) (by assumption) ?_
  rotate_left
  · (intro wz hSw; (try dsimp only at hSw); go_simp; try with_reducible rfl)
  try simp only [List.getElem_toArray, List.getElem_cons_zero, List.getElem_cons_succ, Act.put, List.setIfInBounds_toArray, List.set_cons_zero, List.set_cons_succ]
  refine wpAnyH_take (i := 12) (v := ?_) rfl (by kernel_rfl) (by kernel_rfl) (by kernel_rfl) (fun _ _ _ h => h) (Or.inl ⟨by rfl, ?_⟩) (by assumption) ?_
  rotate_left
  · (intro wz hSw; (try dsimp only at hSw); go_simp; try with_reducible rfl)
  try simp only [List.getElem_toArray, List.getElem_cons_zero, List.getElem_cons_succ, Act.put, List.setIfInBounds_toArray, List.set_cons_zero, List.set_cons_succ]
  refine wpAnyH_take (i := 13) (v := ?_) rfl (by kernel_rfl) (by kernel_rfl) (by kernel_rfl) (fun _ _ _ h => h) (Or.inl ⟨by rfl, ?_⟩) (by assumption) ?_
  rotate_left
  · (intro wz hSw; (try dsimp only at hSw); go_simp; try with_reducible rfl)
  try simp only [List.getElem_toArray, List.getElem_cons_zero, List.getElem_cons_succ, Act.put, List.setIfInBounds_toArray, List.set_cons_zero, List.set_cons_succ]
  refine wpAnyH_ready (rs := [9]) (by kernel_rfl) (by simp) ?_
  refine AllReadyH.cons rfl (fun K hK => ?_) AllReadyH.nil
  go_simp
  refine hK.out _ _ (PSa.all hk3) (fun hHeld => ?_)
  try simp only [List.getElem_toArray, List.getElem_cons_zero, List.getElem_cons_succ, Act.put, List.setIfInBounds_toArray, List.set_cons_zero, List.set_cons_succ]
  refine wpAnyH_ready (rs := [10]) (by kernel_rfl) (by simp) ?_
  refine AllReadyH.cons rfl (fun K hK => ?_) AllReadyH.nil
  go_simp
  go_at_call 20
  refine (HC.out).mono ?_
  rintro e x1 ⟨ca, cc, rfl, q1, hb⟩
  have TT := PSa.step hb
  clear hb
  go_wp2_with fail
  refine hK.out _ _ (TT.all hk3) (fun hHeld => ?_)
  try simp only [List.getElem_toArray, List.getElem_cons_zero, List.getElem_cons_succ, Act.put, List.setIfInBounds_toArray, List.set_cons_zero, List.set_cons_succ]
  refine wpAnyH_more (S2 := fun w' => (Rw w w' B C N2 M2 K1 K2 K3 ya yb za zb pa qa ra yc yd zc zd pc qc rc S2 g1 g2 g3 ∧ (convert 23 9 (.slice ra K3 rc)).run Tryd.prog w' = .ok (.string (strB g3)) w' ∧ (w'.cell? ⟨B, 0, none⟩ = some (.slice ya N2 yc) ∧ w'.cell? ⟨B, 1, none⟩ = some (.slice yb M2 yd)) ∧ w'.cell? ⟨C, 0, none⟩ = some (.slice za N2 zc) ∧ w'.cell? ⟨C, 1, none⟩ = some (.slice zb M2 zd)) ∧ (convert 23 9 (.slice ca K3 cc)).run Tryd.prog w' = .ok (.string (strB g3)) w') (fun _ h => h.1) _ _ _ _ ?_
  have hH2 := And.intro hHeld (conv_at q1 hk3.out)
  refine wpAnyH_take (i := 11) (v := ?_) rfl (by kernel_rfl) (by kernel_rfl) (by kernel_rfl) (fun _ _ _ h => h) (Or.inl ⟨by rfl, ?_⟩) (by assumption) ?_
  rotate_left
  · (intro wz hSw; (try dsimp only at hSw); go_simp; try with_reducible rfl)
  try simp only [List.getElem_toArray, List.getElem_cons_zero, List.getElem_cons_succ, Act.put, List.setIfInBounds_toArray, List.set_cons_zero, List.set_cons_succ]
  refine wpAnyH_take (i := 14) (v := ?_) rfl (by kernel_rfl) (by kernel_rfl) (by kernel_rfl) (fun _ _ _ h => h) (Or.inl ⟨by rfl, ?_⟩) (by assumption) ?_
  rotate_left
  · (intro wz hSw; (try dsimp only at hSw); go_simp; try with_reducible rfl)
  try simp only [List.getElem_toArray, List.getElem_cons_zero, List.getElem_cons_succ, Act.put, List.setIfInBounds_toArray, List.set_cons_zero, List.set_cons_succ]
  refine wpAnyH_take (i := 15) (v := ?_) rfl (by kernel_rfl) (by kernel_rfl) (by kernel_rfl) (fun _ _ _ h => h) (Or.inl ⟨by rfl, ?_⟩) (by assumption) ?_
  rotate_left
  · (intro wz hSw; (try dsimp only at hSw); go_simp; try with_reducible rfl)
  try simp only [List.getElem_toArray, List.getElem_cons_zero, List.getElem_cons_succ, Act.put, List.setIfInBounds_toArray, List.set_cons_zero, List.set_cons_succ]
  refine wpAnyH_take (i := 16) (v := ?_) rfl (by kernel_rfl) (by kernel_rfl) (by kernel_rfl) (fun _ _ _ h => h) (Or.inl ⟨by rfl, ?_⟩) (by assumption) ?_
  rotate_left
  · (intro wz hSw; (try dsimp only at hSw); go_simp; try with_reducible rfl)
  try simp only [List.getElem_toArray, List.getElem_cons_zero, List.getElem_cons_succ, Act.put, List.setIfInBounds_toArray, List.set_cons_zero, List.set_cons_succ]
  refine wpAnyH_take (i := 17) (v := ?_) rfl (by kernel_rfl) (by kernel_rfl) (by kernel_rfl) (fun _ _ _ h => h) (Or.inl ⟨by rfl, ?_⟩) (by assumption) ?_
  rotate_left
  · (intro wz hSw; (try dsimp only at hSw); go_simp; try with_reducible rfl)
  try simp only [List.getElem_toArray, List.getElem_cons_zero, List.getElem_cons_succ, Act.put, List.setIfInBounds_toArray, List.set_cons_zero, List.set_cons_succ]
  refine wpAnyH_take (i := 18) (v := ?_) rfl (by kernel_rfl) (by kernel_rfl) (by kernel_rfl) (fun _ _ _ h => h) (Or.inl ⟨by rfl, ?_⟩) (by assumption) ?_
  rotate_left
  · (intro wz hSw; (try dsimp only at hSw); go_simp; try with_reducible rfl)
  try simp only [List.getElem_toArray, List.getElem_cons_zero, List.getElem_cons_succ, Act.put, List.setIfInBounds_toArray, List.set_cons_zero, List.set_cons_succ]
  refine wpAnyH_ready (rs := [19]) (by kernel_rfl) (by simp) ?_
  refine AllReadyH.cons rfl (fun K hK => ?_) AllReadyH.nil
  go_simp
  go_at_call 15
  refine (same_T _ hN hM (by omega) (Lib.hid TT.y1) (Lib.hid TT.y2) (Lib.hid TT.z1) (Lib.hid TT.z2)).mono ?_
  rintro e x2 ⟨rfl, hb⟩
  have TU := pstep TT.b hb
  go_wp2_with fail
  refine hK.out _ _ (⟨(TT.step hb).all hk3, conv_at (q1.step hb) hk3.out⟩) (fun hHeld => ?_)
  try simp only [List.getElem_toArray, List.getElem_cons_zero, List.getElem_cons_succ, Act.put, List.setIfInBounds_toArray, List.set_cons_zero, List.set_cons_succ]
  refine wpAnyH_take (i := 20) (v := ?_) rfl (by kernel_rfl) (by kernel_rfl) (by kernel_rfl) (fun _ _ _ h => h) (Or.inl ⟨by rfl, ?_⟩) (by assumption) ?_
  rotate_left
  · (intro wz hSw; (try dsimp only at hSw); go_simp; try with_reducible rfl)
  try simp only [List.getElem_toArray, List.getElem_cons_zero, List.getElem_cons_succ, Act.put, List.setIfInBounds_toArray, List.set_cons_zero, List.set_cons_succ]
  refine wpAnyH_take (i := 21) (v := ?_) rfl (by kernel_rfl) (by kernel_rfl) (by kernel_rfl) (fun _ _ _ h => h) (Or.inl ⟨by rfl, ?_⟩) (by assumption) ?_
  rotate_left
  · (intro wz hSw; (try dsimp only at hSw); go_simp; try with_reducible rfl)
  try simp only [List.getElem_toArray, List.getElem_cons_zero, List.getElem_cons_succ, Act.put, List.setIfInBounds_toArray, List.set_cons_zero, List.set_cons_succ]
  refine wpAnyH_done (by kernel_rfl) ?_ _
  refine NoPanic.normal ?_
  go_wp2_with fail
  go_ret
  exact ⟨rfl, TU⟩
/-- The walk, at all arguments. -/
theorem ttyReads_walk (v v1 v2 : Value) (w : World) (h : ArgTty w v) (h1 : ArgInt w v1) (h2 : ArgInt w v2) : Calls Tryd.prog 8 #[v, v1, v2] w fun e w' => e = .returned (.bool true) ∧ Below w.heap.size w w' := by
  obtain ⟨la, lc, ea, ec, s, rfl, A1, A2, _⟩ := h
  obtain ⟨a, rfl, _⟩ := h1
  obtain ⟨b, rfl, _⟩ := h2
  by_cases q0 : a < 1
  · exact reads_s0 a b w q0
  by_cases q1 : b < 1
  · exact reads_s1 a b w q0 q1
  by_cases q2 : a > 100
  · exact reads_s2 a b w q0 q1 q2
  by_cases q3 : b > 100
  · exact reads_s3 a b w q0 q1 q2 q3
  obtain ⟨ls, ed⟩ := s
  cases ls with
  | nil => exact reads_s4 a b w q0 q1 q2 q3
  | cons l r =>
    simp only [List.length_cons] at A1 A2 ⊢
    by_cases q4 : a ≥ (l.length : Int)
    · exact reads_s5 a b w (Lib.hid A1) q0 q1 q2 q3 l.length rfl q4
    · have RD := fun (x : Int) (W : World) (h1 : Hid (LnsAt W la lc (l :: r))) (h2 : Hid (shB.At W ea ec ed)) => read_W (n := r.length + 1) (m := ed.length) (s := ⟨l :: r, ed⟩) W h1 (Lib.hid rfl) h2 (Lib.hid rfl) x
      unfold ReadAll at RD
      cases hr : rgtQ (l :: r) (l :: r).length ed.length with
      | false =>
        have RF := fun x => resR_form (s := ⟨l :: r, ed⟩) hr x
        have R1 := RD a
        have R3 := RD (a + b)
        rw [RF] at R1 R3
        have R2 := fun (W : World) (la' : Option Addr) (lc' : Nat) (ea' : Option Addr) (ec' : Nat) (h1 : Hid (LnsAt W la' lc' newQ.lines)) (h2 : Hid (shB.At W ea' ec' newQ.edit)) => read_W (n := 0) (m := 0) (s := newQ) W h1 (Lib.hid rfl) h2 (Lib.hid rfl) b
        exact reads_err a b w (Lib.hid A1) (Lib.hid A2) q0 q1 q2 q3 l.length rfl q4 _ _ _ _ _ _ _ _ _ newQ _ newQ [] _ [] 1 _ 1 (Lib.hid R1) (Lib.hid R2) (Lib.hid R3) (by decide) rfl
      | true =>
        have G0 : GoodQ ⟨l :: r, ed⟩ := rgt_good hr
        have hnil : ¬ ([] : List (List UInt8)) = l :: r := by simp
        have ha : a.toNat < l.length := by omega
        have e1 := resR_ok (s := ⟨l :: r, ed⟩) G0 q0 (by simp)
        have e3 := resR_ok (s := ⟨l :: r, ed⟩) G0 (a := a + b) (by omega) (by simp)
        have eS : restQ ⟨l :: r, ed⟩ a.toNat = ⟨l.drop a.toNat :: r, ed⟩ := by simp only [restQ]; rw [if_pos ha]
        have G1 := good_restQ G0 a.toNat
        have e2 := resR_ok (s := restQ ⟨l :: r, ed⟩ a.toNat) G1 q1 (by rw [eS]; simp)
        have hab : (a + b).toNat = a.toNat + b.toNat := by omega
        obtain ⟨p1, p2⟩ := reads_Q (r := r) (e := ed) (b := b.toNat) ha
        rw [hab] at e3
        have R1 := RD a
        have R3 := RD (a + b)
        rw [e1] at R1
        rw [e3] at R3
        simp only at R1 R3
        rw [← p2] at R3
        have R2 := fun (W : World) (la' : Option Addr) (lc' : Nat) (ea' : Option Addr) (ec' : Nat) (h1 : Hid (LnsAt W la' lc' (restQ ⟨l :: r, ed⟩ a.toNat).lines)) (h2 : Hid (shB.At W ea' ec' (restQ ⟨l :: r, ed⟩ a.toNat).edit)) => read_W (s := restQ ⟨l :: r, ed⟩ a.toNat) W h1 (Lib.hid rfl) h2 (Lib.hid rfl) b
        unfold ReadAll at R2
        rw [e2] at R2
        simp only at R2
        have G2 := good_restQ G1 b.toNat
        have hl := G0.lens l List.mem_cons_self
        exact reads_ok a b w (Lib.hid A1) (Lib.hid A2) q0 q1 q2 q3 l.length rfl q4 _ _ _ _ _ _ _ (restQ ⟨l :: r, ed⟩ a.toNat) _ _ _ _ (Lib.hid R1) (Lib.hid R2) (Lib.hid R3) (Lib.hid rfl) (Lib.hid rfl) (Lib.hid rfl) (Lib.hid p1) (Lib.hid rfl) (Lib.hid rfl) G2.many (by simp only [gotQ, List.head?_cons, Option.getD_some, List.length_take]; omega)
end Go.Proofs.YtomgifdnnfbpnaaDoor
