/- Package ring: the walks of Step, New, corebellref.SameRing. -/
import Derived.Test.YtipkmmajhhcadaaRngC
namespace Go.Proofs.Ytipkmmajhhcadaa
open Go.RowKit

def zeroR : RiR := ⟨[], 0, 0, 0⟩
/-- What a step answers: the ring, a number, an error. -/
def StepOut (w : World) (N : Nat) (cs : List CeR) (g t k : Nat) (y x : Int) (e : Ending) (w' : World) : Prop :=
  ∃ ra rc, e = .returned (.tuple #[.agg #[.slice ra N rc, .int .i64 (g : Nat), .int .i64 (t : Nat), .int .i64 (k : Nat)], .int .i64 y, .int .i64 x]) ∧ Que shCe w' w.heap.size tC (.slice ra N rc) N cs ∧ Below w.heap.size w w'
theorem step_none {w w' : World} {x : Int} {e : Ending} (he : e = .returned (.tuple #[.agg #[.slice none 0 0, .int .i64 0, .int .i64 0, .int .i64 0], .int .i64 0, .int .i64 x])) (hb : Below w.heap.size w w') : StepOut w 0 [] 0 0 0 0 x e w' :=
  ⟨none, 0, he, que_nil _ _ _ _, hb⟩
/-- The boxes of a step: the ring, the operation, the result. -/
structure Sp (w X : World) (v : Value) (g t k kd d : Int) : Prop where
  b : Below w.heap.size w X
  r : X.heap[w.heap.size]? = some (.cells #[v, .int .i64 g, .int .i64 t, .int .i64 k] tR (0, 0))
  o : X.heap[w.heap.size + 1]? = some (.cells #[.int .i64 kd, .int .i64 d] tP (0, 0))
  z : X.heap[w.heap.size + 1 + 1]? = some (.cells #[.slice none 0 0, .int .i64 0, .int .i64 0, .int .i64 0] tR (0, 0))
section
variable {w X Y : World} {v : Value} {g t k kd d : Int}
theorem sp_new (w : World) (v : Value) (g t k kd d : Int) : Sp w (((w.alloc (.cells #[v, .int .i64 g, .int .i64 t, .int .i64 k] tR)).alloc (.cells #[.int .i64 kd, .int .i64 d] tP)).alloc (.cells #[.slice none 0 0, .int .i64 0, .int .i64 0, .int .i64 0] tR)) v g t k kd d :=
  ⟨below_three w _ _ _, heap3_0 _ _ _ _, heap3_1 _ _ _ _, heap3_2 _ _ _ _⟩
theorem Sp.step (h : Sp w X v g t k kd d) (hb : Below X.heap.size X Y) : Sp w Y v g t k kd d := ⟨pstep h.b hb, heap_step h.r hb, heap_step h.o hb, heap_step h.z hb⟩
theorem Sp.set0 (h : Sp w X v g t k kd d) (u : Value) : Sp w (X.setCell ⟨w.heap.size, 0, none⟩ u) u g t k kd d :=
  ⟨h.b.setCell (Nat.le_refl _) _, heap_setCell_same _ _ 0 _ _ _ h.r, (Below.heap_setCell _ _ _ _ (by simp)).trans h.o, (Below.heap_setCell _ _ _ _ (by simp; omega)).trans h.z⟩
theorem Sp.grown (h : Sp w X v g t k kd d) {B : Nat} (hg : X.grownBy Y (some B)) (hB : w.heap.size ≤ B) (h1 : ∀ b cs, X.heap[b]? = some (.cells cs tR (0, 0)) → b ≠ B) (h2 : ∀ b cs, X.heap[b]? = some (.cells cs tP (0, 0)) → b ≠ B) : Sp w Y v g t k kd d :=
  ⟨⟨hg.os.trans h.b.os, hg.tape.trans h.b.tape, hg.output.trans h.b.output, Nat.le_trans h.b.size hg.size, fun i hi => (hg.block i (Nat.lt_of_lt_of_le hi h.b.size) (fun e => by cases e; omega)).trans (h.b.block i hi)⟩,
   (hg.block _ (heap_lt h.r) (fun e => h1 _ _ h.r (Option.some.inj e))).trans h.r, (hg.block _ (heap_lt h.o) (fun e => h2 _ _ h.o (Option.some.inj e))).trans h.o, (hg.block _ (heap_lt h.z) (fun e => h1 _ _ h.z (Option.some.inj e))).trans h.z⟩
end
theorem que_some {α : Type} {S : Shape α} {w : World} {base n cap : Nat} {e : TypeId} {ad : Option Addr} {l : List α} (h : Que S w base e (.slice ad n cap) n l) (hn : 0 < n) : ∃ B off, ad = some ⟨B, off, none⟩ ∧ base ≤ B := by
  obtain ⟨ad', cap', hv, _, _, h0, h1⟩ := que_shape h
  simp only [Value.slice.injEq, true_and] at hv
  obtain ⟨rfl, rfl⟩ := hv
  cases hd : ad with
  | none => exact absurd (h0 hd).1 (by omega)
  | some a =>
    obtain ⟨g, off, e, hb⟩ := h1 a hd
    exact ⟨g, off, by rw [e], hb.1⟩
theorem at_some {α : Type} {l : List α} {i : Nat} (h : i < l.length) : ∃ a, l[i]? = some a := ⟨_, List.getElem?_eq_getElem h⟩
/-- perform, all by names. -/
theorem perf_N {base B off cap n : Nat} {cs : List CeR} (w : World) (H : Hid (Que shCe w base tC (.slice (some ⟨B, off, none⟩) n cap) n cs)) (g t k : Nat) (kd d : Int) (hn : n ≤ 64) (hg : g < n) (ht : t < n) (hk : k < n) (he : Hid (errN n g t k kd = 0)) (cs' : List CeR) (g' t' k' : Nat) (y : Int) (hd : Hid (doS n ⟨cs, g, t, k⟩ ⟨kd, d⟩ = ⟨cs', g', t', k'⟩)) (hy : Hid (gotS ⟨cs, g, t, k⟩ ⟨kd, d⟩ = y)) :
    Calls Try.prog 22 #[.agg #[.slice (some ⟨B, off, none⟩) n cap, .int .i64 (g : Nat), .int .i64 (t : Nat), .int .i64 (k : Nat)], .agg #[.int .i64 kd, .int .i64 d]] w (PerfOut w base B off cap n cs' g' t' k' y) := by
  have hl := que_len H.out
  have he' := he.out
  have hd' := hd.out
  have hy' := hy.out
  unfold errN at he'
  unfold doS at hd'
  unfold gotS at hy'
  by_cases k0 : kd < 1 ∨ 3 < kd
  · rw [if_pos k0] at he'; cases he'
  by_cases k1 : kd = 1
  · subst k1
    rw [if_pos rfl] at hd'
    rw [if_neg (show ¬ (1 : Int) = 3 by decide)] at hy'
    cases hd'
    subst hy'
    obtain ⟨a, ha⟩ := at_some (l := cs) (i := g) (by omega)
    exact perf_give w H g t k d hn a hg (Lib.hid ha) _ (Lib.hid rfl)
  by_cases k2 : kd = 2
  · subst k2
    rw [if_neg (show ¬ (2 : Int) = 1 by decide), if_pos rfl] at hd'
    rw [if_neg (show ¬ (2 : Int) = 3 by decide)] at hy'
    obtain ⟨a, ha⟩ := at_some (l := cs) (i := k) (by omega)
    simp only [ha, Option.getD_some] at hd'
    cases hd'
    subst hy'
    exact perf_work w H g t k d hn a hk (Lib.hid ha) _ (Lib.hid rfl)
  obtain rfl : kd = 3 := by omega
  rw [if_neg (show ¬ (3 : Int) = 1 by decide), if_neg (show ¬ (3 : Int) = 2 by decide)] at hd'
  rw [if_pos rfl] at hy'
  obtain ⟨a, ha⟩ := at_some (l := cs) (i := t) (by omega)
  simp only [ha, Option.getD_some] at hy'
  cases hd'
  subst hy'
  exact perf_take w H g t k d hn a ht (Lib.hid ha) _ (Lib.hid rfl)
set_option maxHeartbeats 4000000 in
set_option maxRecDepth 100000 in
theorem step_form {ad : Option Addr} {cap n : Nat} {cs : List CeR} (w : World) (H : Hid (shCe.At w ad cap cs)) (hn : Hid (cs.length = n)) (g t k kd d : Int) (hr : Hid (rgtR n cs g t k = false)) : Calls Try.prog 8 #[.agg #[.slice ad n cap, .int .i64 g, .int .i64 t, .int .i64 k], .agg #[.int .i64 kd, .int .i64 d]] w (StepOut w 0 [] 0 0 0 0 1) := by
  have hx := Lib.hid (sp_new w (.slice ad n cap) g t k kd d)
  go_enter Try.func8, Try.ntmps8
  go_upto_region 1 with fail
  generalize ((w.alloc (.cells #[.slice ad n cap, .int .i64 g, .int .i64 t, .int .i64 k] 24)).alloc (.cells #[.int .i64 kd, .int .i64 d] 26)).alloc (.cells #[.slice none 0 0, .int .i64 0, .int .i64 0, .int .i64 0] 24) = X at hx ⊢
  have G0 := four_at hx.out.r
  have T0 := pair_at hx.out.o
  have l0 := heap_lt hx.out.r
  have l1 := heap_lt hx.out.o
  have A0 := Lib.hid (H.out.step hx.out.b)
  go_wp2_with (first
    | (go_at_call 13; (with_reducible refine (right_W _ A0 hn g t k false hr).mono ?_); rintro e w1 ⟨rfl, hb⟩; have A1 := Lib.hid (A0.out.step hb); have S1 := Lib.hid (hx.out.step hb); have G1 := four_at S1.out.r; have T1 := pair_at S1.out.o; have Z1 := four_at S1.out.z; have F1 := (fun i => frozen_of_row w1 (w.heap.size + 1 + 1) i _ _ S1.out.z); have k0 := heap_lt S1.out.r; have k1 := heap_lt S1.out.o; have k2 := heap_lt S1.out.z; clear hb)
    | fail)
  refine bodyPost_ret (results_row_tmp2 rfl _ _ (w.heap.size + 1 + 1) 24 #[.slice none 0 0, .int .i64 0, .int .i64 0, .int .i64 0] (0, 0) _ rfl (four_set S1.out.z) Try.underlying24 rfl size_ring) rfl ?_
  exact step_none rfl (four_below _ _ _ _ S1.out.b (by omega))
set_option maxHeartbeats 4000000 in
set_option maxRecDepth 100000 in
theorem step_err {ad : Option Addr} {cap n : Nat} {cs : List CeR} (w : World) (H : Hid (shCe.At w ad cap cs)) (hn : Hid (cs.length = n)) (g t k : Nat) (kd d : Int) (hr : Hid (rgtR n cs (g : Int) (t : Int) (k : Int) = true)) (hM : n ≤ 64) (hg : g < n) (x : Int) (HX : Hid (errN n g t k kd = x)) (hx0 : (x != 0) = true) : Calls Try.prog 8 #[.agg #[.slice ad n cap, .int .i64 (g : Nat), .int .i64 (t : Nat), .int .i64 (k : Nat)], .agg #[.int .i64 kd, .int .i64 d]] w (StepOut w 0 [] 0 0 0 0 x) := by
  have hx := Lib.hid (sp_new w (.slice ad n cap) (g : Nat) (t : Nat) (k : Nat) kd d)
  go_enter Try.func8, Try.ntmps8
  go_upto_region 1 with fail
  generalize ((w.alloc (.cells #[.slice ad n cap, .int .i64 (g : Nat), .int .i64 (t : Nat), .int .i64 (k : Nat)] 24)).alloc (.cells #[.int .i64 kd, .int .i64 d] 26)).alloc (.cells #[.slice none 0 0, .int .i64 0, .int .i64 0, .int .i64 0] 24) = X at hx ⊢
  have G0 := four_at hx.out.r
  have T0 := pair_at hx.out.o
  have l0 := heap_lt hx.out.r
  have l1 := heap_lt hx.out.o
  have A0 := Lib.hid (H.out.step hx.out.b)
  go_wp2_with (first
    | (go_at_call 13; (with_reducible refine (right_W _ A0 hn (g : Int) (t : Int) (k : Int) true hr).mono ?_); rintro e w1 ⟨rfl, hb⟩; have A1 := Lib.hid (A0.out.step hb); have S1 := Lib.hid (hx.out.step hb); have G1 := four_at S1.out.r; have T1 := pair_at S1.out.o; have Z1 := four_at S1.out.z; have F1 := (fun i => frozen_of_row w1 (w.heap.size + 1 + 1) i _ _ S1.out.z); have k0 := heap_lt S1.out.r; have k1 := heap_lt S1.out.o; have k2 := heap_lt S1.out.z; clear hb)
    | (go_at_call 20; (with_reducible refine (check_W _ _ n g t k kd d _ hg hM x HX).mono ?_); rintro e w2 ⟨rfl, hb⟩; have A2 := Lib.hid (A1.out.step hb); have S2 := Lib.hid (S1.out.step hb); have G2 := four_at S2.out.r; have Z2 := four_at S2.out.z; have F2 := (fun i => frozen_of_row w2 (w.heap.size + 1 + 1) i _ _ S2.out.z); have F3 := (fun i => frozen_of_row w2 w.heap.size i _ _ S2.out.r); have j0 := heap_lt S2.out.r; have j2 := heap_lt S2.out.z; clear hb)
    | fail)
  refine bodyPost_ret (results_row_tmp2 rfl _ _ (w.heap.size + 1 + 1) 24 #[.slice none 0 0, .int .i64 0, .int .i64 0, .int .i64 0] (0, 0) _ rfl (four_set S2.out.z) Try.underlying24 rfl size_ring) rfl ?_
  exact step_none rfl (four_below _ _ _ _ S2.out.b (by omega))
set_option maxHeartbeats 4000000 in
set_option maxRecDepth 100000 in
theorem step_ok {ad : Option Addr} {cap n : Nat} {cs : List CeR} (w : World) (H : Hid (shCe.At w ad cap cs)) (hn : Hid (cs.length = n)) (g t k : Nat) (kd d : Int) (hr : Hid (rgtR n cs (g : Int) (t : Int) (k : Int) = true)) (hM : n ≤ 64) (hg : g < n) (ht : t < n) (hk : k < n) (he : Hid (errN n g t k kd = 0)) (cs' : List CeR) (g' t' k' : Nat) (y : Int) (hd : Hid (doS n ⟨cs, g, t, k⟩ ⟨kd, d⟩ = ⟨cs', g', t', k'⟩)) (hy : Hid (gotS ⟨cs, g, t, k⟩ ⟨kd, d⟩ = y)) : Calls Try.prog 8 #[.agg #[.slice ad n cap, .int .i64 (g : Nat), .int .i64 (t : Nat), .int .i64 (k : Nat)], .agg #[.int .i64 kd, .int .i64 d]] w (StepOut w n cs' g' t' k' y 0) := by
  have hx := Lib.hid (sp_new w (.slice ad n cap) (g : Nat) (t : Nat) (k : Nat) kd d)
  go_enter Try.func8, Try.ntmps8
  go_upto_region 1 with fail
  generalize ((w.alloc (.cells #[.slice ad n cap, .int .i64 (g : Nat), .int .i64 (t : Nat), .int .i64 (k : Nat)] 24)).alloc (.cells #[.int .i64 kd, .int .i64 d] 26)).alloc (.cells #[.slice none 0 0, .int .i64 0, .int .i64 0, .int .i64 0] 24) = X at hx ⊢
  have G0 := four_at hx.out.r
  have T0 := pair_at hx.out.o
  have l0 := heap_lt hx.out.r
  have l1 := heap_lt hx.out.o
  have A0 := Lib.hid (H.out.step hx.out.b)
  have hn0 : 0 < n := by omega
  go_upto_region 6 with (first
    | (go_at_call 13; (with_reducible refine (right_W _ A0 hn (g : Int) (t : Int) (k : Int) true hr).mono ?_); rintro e w1 ⟨rfl, hb⟩; have A1 := Lib.hid (A0.out.step hb); have S1 := Lib.hid (hx.out.step hb); have G1 := four_at S1.out.r; have T1 := pair_at S1.out.o; have Z1 := four_at S1.out.z; have F1 := (fun i => frozen_of_row w1 (w.heap.size + 1 + 1) i _ _ S1.out.z); have k0 := heap_lt S1.out.r; have k1 := heap_lt S1.out.o; have k2 := heap_lt S1.out.z; clear hb)
    | (go_at_call 20; (with_reducible refine (check_W _ _ n g t k kd d _ hg hM 0 he).mono ?_); rintro e w2 ⟨rfl, hb⟩; have A2 := Lib.hid (A1.out.step hb); have S2 := Lib.hid (S1.out.step hb); have G2 := four_at S2.out.r; have Z2 := four_at S2.out.z; have F2 := (fun i => frozen_of_row w2 (w.heap.size + 1 + 1) i _ _ S2.out.z); have F3 := (fun i => frozen_of_row w2 w.heap.size i _ _ S2.out.r); have j0 := heap_lt S2.out.r; have j2 := heap_lt S2.out.z; clear hb)
    | fail)
  clear G0 T0 l0 l1 G1 T1 Z1 F1 k0 k1 k2 A0 A1 hx S1
  go_upto_region 7 with (first
    | (go_at_call 21; (with_reducible refine (clone_C cs ad n cap _ hn A2 hM).mono ?_); rintro e w3 ⟨ra3, rc3, rfl, o3, hb⟩; have S3 := Lib.hid (S2.out.step hb); have G3 := four_at S3.out.r; have F4 := (fun i => frozen_of_row w3 w.heap.size i _ _ S3.out.r); have i0 := heap_lt S3.out.r; have O3 := Lib.hid (que_base (base' := w.heap.size) o3 S2.out.b.size); clear o3 hb)
    | fail)
  obtain ⟨B, off, rfl, hB⟩ := que_some O3.out hn0
  have S4 := Lib.hid (S3.out.set0 (.slice (some ⟨B, off, none⟩) n rc3))
  have O4 := Lib.hid (que_set (a := ⟨w.heap.size, 0, none⟩) O3.out (que_ne O3.out S3.out.r (by decide)) (.slice (some ⟨B, off, none⟩) n rc3))
  clear G2 Z2 F2 F3 j0 j2 S2 S3 O3 G3 F4 i0 A2
  generalize w3.setCell ⟨w.heap.size, 0, none⟩ (.slice (some ⟨B, off, none⟩) n rc3) = w4 at S4 O4 ⊢
  have G4 := four_at S4.out.r
  have T4 := pair_at S4.out.o
  have h0 := heap_lt S4.out.r
  have h1 := heap_lt S4.out.o
  go_wp2_with (first
    | (go_at_call 22; (with_reducible refine (perf_N _ O4 g t k kd d hM hg ht hk he cs' g' t' k' y hd hy).mono ?_); rintro e w7 ⟨rfl, q7, e7⟩; have S7 := Lib.hid (S4.out.grown e7 hB (fun b cs hb e => que_ne O4.out hb (by decide) B rfl e.symm) (fun b cs hb e => que_ne O4.out hb (by decide) B rfl e.symm)); have Q7 := Lib.hid q7; have Z7 := four_at S7.out.z; have F7 := (fun i => frozen_of_row w7 (w.heap.size + 1 + 1) i _ _ S7.out.z); have h7 := heap_lt S7.out.z; clear q7 e7)
    | fail)
  have n2 := que_ne Q7.out S7.out.z (by decide)
  have Q9 := que_step (que_four Q7.out n2 (.slice (some ⟨B, off, none⟩) n rc3) (.int .i64 (g' : Nat)) (.int .i64 (t' : Nat)) (.int .i64 (k' : Nat))) (below_alloc _ (.cells #[.slice (some ⟨B, off, none⟩) n rc3, .int .i64 (g' : Nat), .int .i64 (t' : Nat), .int .i64 (k' : Nat)] 24))
  have hz8 := heap_step (four_set (x' := .slice (some ⟨B, off, none⟩) n rc3) (y' := .int .i64 (g' : Nat)) (z' := .int .i64 (t' : Nat)) (u' := .int .i64 (k' : Nat)) S7.out.z) (below_alloc _ (.cells #[.slice (some ⟨B, off, none⟩) n rc3, .int .i64 (g' : Nat), .int .i64 (t' : Nat), .int .i64 (k' : Nat)] 24))
  refine bodyPost_ret (results_row_tmp2 rfl _ _ (w.heap.size + 1 + 1) 24 #[.slice (some ⟨B, off, none⟩) n rc3, .int .i64 (g' : Nat), .int .i64 (t' : Nat), .int .i64 (k' : Nat)] (0, 0) _ rfl hz8 Try.underlying24 rfl size_ring) rfl ?_
  exact ⟨_, _, rfl, Q9, pstep (four_below _ _ _ _ S7.out.b (by omega)) (below_alloc _ _)⟩
/-- What a step makes of a ring and an operation. -/
def resS (n : Nat) (cs : List CeR) (g t k : Int) (o : RoT) : RiR × Int × Int :=
  if rgtR n cs g t k = true then
    if errS n ⟨cs, g.toNat, t.toNat, k.toNat⟩ o = 0 then (doS n ⟨cs, g.toNat, t.toNat, k.toNat⟩ o, gotS ⟨cs, g.toNat, t.toNat, k.toNat⟩ o, 0) else (zeroR, 0, errS n ⟨cs, g.toNat, t.toNat, k.toNat⟩ o)
  else (zeroR, 0, 1)
theorem rgt_parts {n : Nat} {cs : List CeR} {g t k : Int} (h : rgtR n cs g t k = true) : 2 ≤ n ∧ n ≤ 64 ∧ (0 ≤ g ∧ g < n) ∧ (0 ≤ t ∧ t < n) ∧ (0 ≤ k ∧ k < n) := by
  have h := of_decide_eq_true h
  exact ⟨h.1, h.2.1, h.2.2.1, h.2.2.2.1, h.2.2.2.2.1⟩
theorem do_len {n : Nat} (r : RiR) (o : RoT) : (doS n r o).cs.length = r.cs.length := by
  unfold doS
  split
  · simp
  · split <;> simp
/-- ring.Step, at every ring and operation. -/
theorem step_W {ad : Option Addr} {cap n : Nat} {cs : List CeR} (w : World) (H : Hid (shCe.At w ad cap cs)) (hn : Hid (cs.length = n)) (g t k kd d : Int) (N : Nat) (cs' : List CeR) (g' t' k' : Nat) (y x : Int) (HR : Hid (resS n cs g t k ⟨kd, d⟩ = (⟨cs', g', t', k'⟩, y, x))) (hN : Hid (cs'.length = N)) : Calls Try.prog 8 #[.agg #[.slice ad n cap, .int .i64 g, .int .i64 t, .int .i64 k], .agg #[.int .i64 kd, .int .i64 d]] w (StepOut w N cs' g' t' k' y x) := by
  have hR := HR.out
  have hN' := hN.out
  unfold resS at hR
  cases hr : rgtR n cs g t k with
  | false =>
    rw [if_neg (by simp [hr])] at hR
    simp only [zeroR, Prod.mk.injEq, RiR.mk.injEq] at hR
    obtain ⟨⟨rfl, rfl, rfl, rfl⟩, rfl, rfl⟩ := hR
    subst hN'
    exact step_form w H hn g t k kd d (Lib.hid hr)
  | true =>
    rw [if_pos hr] at hR
    obtain ⟨h1, h2, ⟨g0, g1⟩, ⟨t0, t1⟩, ⟨k0, k1⟩⟩ := rgt_parts hr
    obtain ⟨gn, rfl⟩ : ∃ gn : Nat, g = gn := ⟨g.toNat, by omega⟩
    obtain ⟨tn, rfl⟩ : ∃ tn : Nat, t = tn := ⟨t.toNat, by omega⟩
    obtain ⟨kn, rfl⟩ : ∃ kn : Nat, k = kn := ⟨k.toNat, by omega⟩
    simp only [Int.toNat_natCast] at hR
    have hg : gn < n := by omega
    have ht : tn < n := by omega
    have hk : kn < n := by omega
    have he := errN_eq (n := n) ⟨cs, gn, tn, kn⟩ hg ht ⟨kd, d⟩
    by_cases h0 : errS n ⟨cs, gn, tn, kn⟩ ⟨kd, d⟩ = 0
    · rw [if_pos h0] at hR
      simp only [Prod.mk.injEq] at hR
      obtain ⟨e1, e2, rfl⟩ := hR
      have hl := do_len (n := n) ⟨cs, gn, tn, kn⟩ ⟨kd, d⟩
      rw [e1] at hl
      simp only at hl
      obtain rfl : N = n := by rw [← hN', hl, hn.out]
      exact step_ok w H hn gn tn kn kd d (Lib.hid hr) h2 hg ht hk (Lib.hid (he.symm.trans h0)) cs' g' t' k' y (Lib.hid e1) (Lib.hid e2)
    · rw [if_neg h0] at hR
      simp only [zeroR, Prod.mk.injEq, RiR.mk.injEq] at hR
      obtain ⟨⟨rfl, rfl, rfl, rfl⟩, rfl, rfl⟩ := hR
      subst hN'
      exact step_err w H hn gn tn kn kd d (Lib.hid hr) h2 hg _ (Lib.hid he.symm) (by simpa using h0)
theorem cells_zero (n : Nat) : (List.replicate n ((false, 0) : CeR)).length = n := List.length_replicate
theorem eq_cell (x : Bool) (y : Int) (w : World) : (Op.equalIn 10000 47 (.agg #[.bool x, .int .i64 y]) (.agg #[.bool x, .int .i64 y])).run Try.prog w = .ok true w := by
  have e : ∀ (x : Int) (w : World), (Op.equalIn 9999 3 (.int .i64 x) (.int .i64 x)).run Try.prog w = .ok true w := fun x w => by rw [run_equalIn_int w 9998 _ _ _ x x Try.underlying3]; simp
  have eb : ∀ (x : Bool) (w : World), (Op.equalIn 9999 4 (.bool x) (.bool x)).run Try.prog w = .ok true w := fun x w => by rw [run_equalIn_bool w 9998 _ x x Try.underlying4]; simp
  rw [Op.equalIn]
  simp only [Sem.run_bind, run_underlying Try.underlying47, Result.andThen_ok]
  have hs : Try.prog.stoodInHeld 47 = false := by kernel_rfl
  have p0 : ∀ w : World, (part 4 #[.bool x, .int .i64 y] 0).run Try.prog w = .ok (.bool x) w := fun w => by simp [part, Try.isAgg4, Sem.run_bind]
  have p1 : ∀ w : World, (part 3 #[.bool x, .int .i64 y] 1).run Try.prog w = .ok (.int .i64 y) w := fun w => by simp [part, Try.isAgg3, Sem.run_bind]
  simp [hs, Sem.run_bind, p0, p1, e, eb]
set_option maxHeartbeats 4000000 in
set_option maxRecDepth 100000 in
theorem same_R {a1 a2 : Option Addr} {c1 c2 n : Nat} {l : List CeR} (w : World) (g t k : Int) (hl : Hid (l.length = n)) (H1 : Hid (shCe.At w a1 c1 l)) (H2 : Hid (shCe.At w a2 c2 l)) (hn : n ≤ 64) : Calls Try.prog 14 #[.agg #[.slice a1 n c1, .int .i64 g, .int .i64 t, .int .i64 k], .agg #[.slice a2 n c2, .int .i64 g, .int .i64 t, .int .i64 k]] w fun e w' => e = .returned (.bool true) ∧ Below w.heap.size w w' := by
  have heq : ∀ (x : Bool) (y : Int) (w : World), (Op.equalIn 10000 47 (.agg #[.bool x, .int .i64 y]) (.agg #[.bool x, .int .i64 y])).run Try.prog w = .ok true w := eq_cell
  have B0 := Lib.hid (below_two w (.cells #[.slice a1 n c1, .int .i64 g, .int .i64 t, .int .i64 k] 24) (.cells #[.slice a2 n c2, .int .i64 g, .int .i64 t, .int .i64 k] 24))
  have R1 := Lib.hid (heap_step (heap_alloc_new w (.cells #[.slice a1 n c1, .int .i64 g, .int .i64 t, .int .i64 k] 24)) (below_alloc _ (.cells #[.slice a2 n c2, .int .i64 g, .int .i64 t, .int .i64 k] 24)))
  have R2 := Lib.hid (heap_alloc2_new w (.cells #[.slice a1 n c1, .int .i64 g, .int .i64 t, .int .i64 k] 24) (.cells #[.slice a2 n c2, .int .i64 g, .int .i64 t, .int .i64 k] 24))
  go_enter Try.func14, Try.ntmps14
  go_upto_region 1 with fail
  have A1 := Lib.hid (H1.out.step B0.out)
  have A2 := Lib.hid (H2.out.step B0.out)
  generalize (w.alloc (.cells #[.slice a1 n c1, .int .i64 g, .int .i64 t, .int .i64 k] 24)).alloc (.cells #[.slice a2 n c2, .int .i64 g, .int .i64 t, .int .i64 k] 24) = X at B0 R1 R2 A1 A2 ⊢
  have G1 := four_at R1.out
  have G2 := four_at R2.out
  have l1 := heap_lt R1.out
  have l2 := heap_lt R2.out
  go_wp2_with fail
  go_loopw [37] (fun i wr => ∃ j : Nat, j ≤ n ∧ i = .int .i64 j ∧ ∃ q, wr = X.drewN q) (fun i _ => n - (intOf i).toNat)
  case atStart => exact ⟨0, Nat.zero_le _, rfl, 0, rfl⟩
  case round =>
    obtain ⟨j, hj, rfl, q, rfl⟩ := hrel
    by_cases hlt : j < n
    · obtain ⟨f, hf⟩ : ∃ f, l[j]? = some f := ⟨l[j]'(by rw [hl.out]; exact hlt), List.getElem?_eq_getElem _⟩
      obtain ⟨b, off, rfl, hb1, c0, c3⟩ := at_ce A1.out hf
      obtain ⟨b2, off2, rfl, hb2, e0, e1⟩ := at_ce A2.out hf
      obtain ⟨x, y⟩ := f
      simp only at c0 c3 e0 e1
      clear hf
      go_wp2_with fail
      go_quiet (fail)
      go_wp2_with fail
      go_roundw
      case rel => exact ⟨j + 1, by omega, by go_num, _, rfl⟩
      case measure => simp [intOf]; omega
    · obtain rfl : j = n := by omega
      clear hlt hj
      go_wp2_with fail
      go_ret
      exact ⟨rfl, pstep B0.out (below_drewN (Below.refl _ _) _)⟩
end Go.Proofs.Ytipkmmajhhcadaa
