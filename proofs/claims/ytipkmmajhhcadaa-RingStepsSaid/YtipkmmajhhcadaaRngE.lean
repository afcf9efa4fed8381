/- Package ring: the walks of New and Play. -/
import Derived.Test.YtipkmmajhhcadaaRngD
import Derived.Test.YtipkmmajhhcadaaRingV
import Derived.Test.YtipkmmajhhcadaaErr
import Derived.Test.YtipkmmajhhcadaaOne
namespace Go.Proofs.Ytipkmmajhhcadaa
open Go.RowKit

section
variable {P : Program}
theorem results_tmp2_row_tmp1 {fn : Func} {p u v x : Tmp} {ty : TypeId} (h : fn.results = #[.tmp u, .tmp v, .cell p ty, .tmp x]) (tmps : Array Value) (w : World) (g : Nat) (t : TypeId) (cs : Array Value) (fr : Nat × Nat) (d : TypeDesc)
    (hp : tmps.getD p undef = .pointer (some ⟨g, 0, none⟩)) (hg : w.heap[g]? = some (.cells cs t fr))
    (hu : P.underlying ty = some d) (hd : (match d with | .struct _ | .array _ _ => true | _ => false) = true) (hi : (P.info? ty).map (·.size) = some cs.size) :
    (results fn tmps).run P w = .ok (.tuple #[tmps.getD u undef, tmps.getD v undef, .agg cs, tmps.getD x undef]) w := by
  have hp' : tmps[p]?.getD undef = .pointer (some ⟨g, 0, none⟩) := by simpa using hp
  simp [results, h, hp', asAddr, run_loadVar_row w g t ty cs fr d hg hu hd hi]
end
abbrev tE : TypeId := 27
abbrev tI : TypeId := 3
theorem made_two (a b : Value) (n : Nat) : (madeCells #[a, b] (n * 2)).toList = (List.replicate n [a, b]).flatten := by
  induction n with
  | zero => simp [madeCells]
  | succ n ih =>
    rw [List.replicate_succ', List.flatten_append, ← ih]
    unfold madeCells
    simp only [Array.toList_map, Array.toList_range]
    rw [show (n + 1) * 2 = n * 2 + 1 + 1 by omega, List.range_succ, List.range_succ, List.map_append, List.map_append, List.append_assoc]
    congr 1
    have h1 : n * 2 % 2 = 0 := by omega
    have h2 : (n * 2 + 1) % 2 = 1 := by omega
    simp [h1, h2]
theorem flat_zero (n : Nat) : shCe.flat (List.replicate n ((false, 0) : CeR)) = (List.replicate n [Value.bool false, .int .i64 0]).flatten := by
  induction n with
  | zero => rfl
  | succ n ih => rw [List.replicate_succ, List.replicate_succ, List.flatten_cons, ← ih]; rfl
set_option maxHeartbeats 4000000 in
set_option maxRecDepth 100000 in
theorem new_bad (x : Int) (w : World) (hx : ¬ (2 ≤ x ∧ x ≤ 64)) : Calls Try.prog 11 #[.int .i64 x] w fun e w' => e = .returned (.tuple #[.agg #[.slice none 0 0, .int .i64 0, .int .i64 0, .int .i64 0], .int .i64 2]) ∧ Below w.heap.size w w' := by
  have B0 := Lib.hid (below_alloc w (.cells #[.slice none 0 0, .int .i64 0, .int .i64 0, .int .i64 0] 24))
  have Z0 := Lib.hid (heap_alloc_new w (.cells #[.slice none 0 0, .int .i64 0, .int .i64 0, .int .i64 0] 24))
  by_cases h1 : x < 2
  · have h1' : decide (x < 2) = true := decide_eq_true h1
    clear hx
    go_enter Try.func11, Try.ntmps11
    go_upto_region 1 with fail
    generalize w.alloc (.cells #[.slice none 0 0, .int .i64 0, .int .i64 0, .int .i64 0] 24) = X at B0 Z0 ⊢
    have G0 := four_at Z0.out
    have F0 := fun i => frozen_of_row X w.heap.size i _ _ Z0.out
    have l0 := heap_lt Z0.out
    go_wp2_with fail
    refine bodyPost_ret (results_row_tmp1 rfl _ _ w.heap.size 24 #[.slice none 0 0, .int .i64 0, .int .i64 0, .int .i64 0] (0, 0) _ rfl (four_set Z0.out) Try.underlying24 rfl size_ring) rfl ?_
    exact ⟨rfl, four_below _ _ _ _ B0.out (Nat.le_refl _)⟩
  · have h1' : decide (x < 2) = false := decide_eq_false h1
    have h2' : decide (x > 64) = true := decide_eq_true (by omega)
    clear hx
    go_enter Try.func11, Try.ntmps11
    go_upto_region 1 with fail
    generalize w.alloc (.cells #[.slice none 0 0, .int .i64 0, .int .i64 0, .int .i64 0] 24) = X at B0 Z0 ⊢
    have G0 := four_at Z0.out
    have F0 := fun i => frozen_of_row X w.heap.size i _ _ Z0.out
    have l0 := heap_lt Z0.out
    go_wp2_with fail
    refine bodyPost_ret (results_row_tmp1 rfl _ _ w.heap.size 24 #[.slice none 0 0, .int .i64 0, .int .i64 0, .int .i64 0] (0, 0) _ rfl (four_set Z0.out) Try.underlying24 rfl size_ring) rfl ?_
    exact ⟨rfl, four_below _ _ _ _ B0.out (Nat.le_refl _)⟩
set_option maxHeartbeats 4000000 in
set_option maxRecDepth 100000 in
theorem new_ok (n : Nat) (w : World) (h2 : 2 ≤ n) (h64 : n ≤ 64) : Calls Try.prog 11 #[.int .i64 (n : Nat)] w fun e w' => ∃ B, e = .returned (.tuple #[.agg #[.slice (some ⟨B, 0, none⟩) n n, .int .i64 0, .int .i64 0, .int .i64 0], .int .i64 0]) ∧ Que shCe w' w.heap.size tC (.slice (some ⟨B, 0, none⟩) n n) n (List.replicate n (false, 0)) ∧ Below w.heap.size w w' := by
  obtain ⟨i0, hi, hz0, hz1, hz2⟩ := info_parts' info_cell
  have hb0 : i0.bytes * n ≤ 281474976710656 := by rw [hz2]; omega
  have hmx : n ≤ maxLen := by unfold maxLen; omega
  have B0 := Lib.hid (below_alloc w (.cells #[.slice none 0 0, .int .i64 0, .int .i64 0, .int .i64 0] 24))
  have Z0 := Lib.hid (heap_alloc_new w (.cells #[.slice none 0 0, .int .i64 0, .int .i64 0, .int .i64 0] 24))
  have h1' : decide ((n : Int) < 2) = false := decide_eq_false (by omega)
  have h2' : decide ((n : Int) > 64) = false := decide_eq_false (by omega)
  go_enter Try.func11, Try.ntmps11
  go_upto_region 1 with fail
  generalize w.alloc (.cells #[.slice none 0 0, .int .i64 0, .int .i64 0, .int .i64 0] 24) = X at B0 Z0 ⊢
  have hs2 := B0.out.size
  have HS2 := Lib.hid hs2
  have l0 := heap_lt Z0.out
  go_wp2_with (first
    | (at_make; refine wpList_make_full _ rfl _ _ 22 rfl w.heap.size 47 i0 _ 2 Try.underlying22 hi hz0 hz1 .i64 .i64 _ _ n rfl rfl rfl rfl hb0 hmx hs2 ?_; intro w3 hown hgrow; have O3 := Lib.hid hown; have B3 := Lib.hid ((Below.refl X.heap.size X).grown hgrow (Nat.le_refl _) (fun k hk => by cases hk)); have Z3 := Lib.hid (heap_step Z0.out B3.out); have F3 := (fun i => frozen_of_row w3 w.heap.size i _ _ Z3.out); have G3 := four_at Z3.out; have l3 := heap_lt Z3.out; clear hown hgrow)
    | fail)
  refine bodyPost_ret (results_row_tmp1 rfl _ _ w.heap.size 24 #[.slice (some ⟨X.heap.size, 0, none⟩) n n, .int .i64 0, .int .i64 0, .int .i64 0] (0, 0) _ rfl (four_set Z3.out) Try.underlying24 rfl size_ring) rfl ?_
  have o3 := O3.out
  rw [show (Value.agg #[.bool false, .int .i64 0]).cells = #[.bool false, .int .i64 0] from rfl, made_two, ← flat_zero] at o3
  have q3 := que_own (S := shCe) o3 (List.length_replicate)
  exact ⟨_, rfl, que_four q3 (fun g hg => by simp [Value.ownBlock] at hg; omega) _ _ _ _, four_below _ _ _ _ (pstep B0.out B3.out) (Nat.le_refl _)⟩
/-- What is in memory while Play runs. -/
structure LpR (w wr : World) (E U B off cap n m : Nat) (cs : List CeR) (g t k : Nat) (es : List Int) (tv : Value) (a : Nat) (tk : List Int) : Prop where
  b : Below w.heap.size w wr
  z : wr.heap[w.heap.size]? = some (.cells #[.slice none 0 0, .int .i64 0, .int .i64 0, .int .i64 0] tR (0, 0))
  u : wr.heap[U]? = some (.cells #[.slice (some ⟨B, off, none⟩) n cap, .int .i64 (g : Nat), .int .i64 (t : Nat), .int .i64 (k : Nat)] tR (0, 0))
  lt : w.heap.size < U
  q : Que shCe wr w.heap.size tC (.slice (some ⟨B, off, none⟩) n cap) n cs
  e : ErrRow wr E m es
  le : w.heap.size ≤ E
  t : Que shI wr w.heap.size tI tv a tk
section
variable {w wr wy : World} {E U B off cap n m : Nat} {cs : List CeR} {g t k : Nat} {es : List Int} {tv : Value} {a : Nat} {tk : List Int}
theorem LpR.step (h : LpR w wr E U B off cap n m cs g t k es tv a tk) (hb : Below wr.heap.size wr wy) : LpR w wy E U B off cap n m cs g t k es tv a tk :=
  ⟨pstep h.b hb, heap_step h.z hb, heap_step h.u hb, h.lt, que_step h.q hb, h.e.same (hb.block _ h.e.lt), h.le, que_step h.t hb⟩
theorem err_ne (h : ErrRow wr E m es) {b T : Nat} {cs : Array Value} {fr : Nat × Nat} (hb : wr.heap[b]? = some (.cells cs T fr)) (hT : ¬ T = tE) : b ≠ E := fun e => by
  obtain ⟨cur, hc, _⟩ := h
  rw [e, hc] at hb
  simp only [Option.some.injEq, Obj.cells.injEq] at hb
  exact hT hb.2.1.symm
theorem LpR.setE (h : LpR w wr E U B off cap n m cs g t k es tv a tk) {i : Nat} (hi : es.length = i) (him : i < m) (x : Int) : LpR w (wr.setCell ⟨E, i, none⟩ (.int .i64 x)) E U B off cap n m cs g t k (es ++ [x]) tv a tk := by
  obtain ⟨cur, hc, _⟩ := h.e
  exact ⟨h.b.setCell h.le _, (Below.heap_setCell wr ⟨E, i, none⟩ (.int .i64 x) _ (err_ne h.e h.z (by decide))).trans h.z, (Below.heap_setCell wr ⟨E, i, none⟩ (.int .i64 x) _ (err_ne h.e h.u (by decide))).trans h.u, h.lt,
    que_set (a := ⟨E, i, none⟩) h.q (que_ne h.q hc (by decide)) _, h.e.put hi him x, h.le, que_set (a := ⟨E, i, none⟩) h.t (que_ne h.t hc (by decide)) _⟩
/-- Behind perform: the row of cells is another one. -/
theorem LpR.perf {cs' : List CeR} (h : LpR w wr E U B off cap n m cs g t k es tv a tk) (hg : wr.grownBy wy (some B)) (hq : Que shCe wy w.heap.size tC (.slice (some ⟨B, off, none⟩) n cap) n cs') : LpR w wy E U B off cap n m cs' g t k es tv a tk := by
  obtain ⟨cb, hB⟩ := que_block h.q
  obtain ⟨cur, hc, _⟩ := h.e
  have hlt : w.heap.size ≤ B := (que_lt h.q rfl).1
  have n1 : ∀ {b T : Nat} {xs : Array Value} {fr : Nat × Nat}, wr.heap[b]? = some (.cells xs T fr) → ¬ T = tC → ¬ some b = some B := fun hb hT e => by
    rw [Option.some.inj e, hB] at hb
    simp only [Option.some.injEq, Obj.cells.injEq] at hb
    exact hT hb.2.1.symm
  exact ⟨⟨hg.os.trans h.b.os, hg.tape.trans h.b.tape, hg.output.trans h.b.output, Nat.le_trans h.b.size hg.size, fun i hi => (hg.block i (Nat.lt_of_lt_of_le hi h.b.size) (fun e => by cases e; omega)).trans (h.b.block i hi)⟩,
    (hg.block _ (heap_lt h.z) (n1 h.z (by decide))).trans h.z, (hg.block _ (heap_lt h.u) (n1 h.u (by decide))).trans h.u, h.lt, hq, h.e.same (hg.block _ h.e.lt (n1 hc (by decide))), h.le,
    que_kept h.t hg (fun x hx e => (que_ne h.t hB (by decide) x hx) (Option.some.inj e))⟩
/-- The ring's box is written. -/
theorem LpR.put (h : LpR w wr E U B off cap n m cs g t k es tv a tk) (g' t' k' : Nat) : LpR w ((((wr.setCell ⟨U, 0, none⟩ (.slice (some ⟨B, off, none⟩) n cap)).setCell ⟨U, 1, none⟩ (.int .i64 (g' : Nat))).setCell ⟨U, 2, none⟩ (.int .i64 (t' : Nat))).setCell ⟨U, 3, none⟩ (.int .i64 (k' : Nat))) E U B off cap n m cs g' t' k' es tv a tk := by
  obtain ⟨cur, hc, _⟩ := h.e
  have n1 := que_ne h.q h.u (by decide)
  have n2 := que_ne h.t h.u (by decide)
  have hl := h.lt
  have h4 := fun j (hj : j ≠ U) => four_other wr (b := U) (k := j) (.slice (some ⟨B, off, none⟩) n cap) (.int .i64 (g' : Nat)) (.int .i64 (t' : Nat)) (.int .i64 (k' : Nat)) hj
  exact ⟨(((h.b.setCell (by simp only; omega) _).setCell (by simp only; omega) _).setCell (by simp only; omega) _).setCell (by simp only; omega) _, (h4 _ (by omega)).trans h.z, four_set h.u, h.lt, que_four h.q n1 _ _ _ _, h.e.same (h4 _ (err_ne h.e h.u (by decide)).symm), h.le,
    que_set (a := ⟨U, 3, none⟩) (que_set (a := ⟨U, 2, none⟩) (que_set (a := ⟨U, 1, none⟩) (que_set (a := ⟨U, 0, none⟩) h.t n2 _) n2 _) n2 _) n2 _⟩
/-- One more was taken. -/
theorem LpR.took {tv' : Value} {a' : Nat} {tk' : List Int} (h : LpR w wr E U B off cap n m cs g t k es tv a tk) (hg : wr.grownBy wy tv.ownBlock) (hq : Que shI wy w.heap.size tI tv' a' tk') : LpR w wy E U B off cap n m cs g t k es tv' a' tk' := by
  obtain ⟨cb, hB⟩ := que_block h.q
  obtain ⟨cur, hc, _⟩ := h.e
  exact ⟨h.b.grown hg h.b.size (fun k hk => (que_lt h.t hk).1), (hg.block _ (heap_lt h.z) (fun e => que_ne h.t h.z (by decide) _ e.symm rfl)).trans h.z, (hg.block _ (heap_lt h.u) (fun e => que_ne h.t h.u (by decide) _ e.symm rfl)).trans h.u, h.lt,
    que_kept h.q hg (fun x hx e => by
      simp only [Value.ownBlock, Option.some.injEq] at hx
      subst hx
      exact que_ne h.t hB (by decide) _ e.symm rfl), h.e.same (hg.block _ h.e.lt (fun e => que_ne h.t hc (by decide) _ e.symm rfl)), h.le, hq⟩
end
/-- What Play answers. -/
def PlayOut (w : World) (n m A : Nat) (es tk : List Int) (s : StG) (e : Ending) (w' : World) : Prop :=
  ∃ E ta tc ra rc cs g t k, e = .returned (.tuple #[.slice (some ⟨E, 0, none⟩) m m, .slice ta A tc, .agg #[.slice ra n rc, .int .i64 (g : Nat), .int .i64 (t : Nat), .int .i64 (k : Nat)], .int .i64 0]) ∧ RiR.Tells n ⟨cs, g, t, k⟩ s ∧ IdxG n ⟨cs, g, t, k⟩ s ∧ ErrRow w' E m es ∧ Que shI w' w.heap.size tI (.slice ta A tc) A tk ∧ Que shCe w' w.heap.size tC (.slice ra n rc) n cs ∧ Below w.heap.size w w'
theorem int_lit (w : World) (v : Int) (cap : Nat) : shI.At (w.alloc (.cells #[.int .i64 v] 3)) (some ⟨w.heap.size, 0, none⟩) cap [v] := Shape.At.lit (S := shI) [v] (heap_alloc_new w _)
set_option maxHeartbeats 4000000 in
set_option maxRecDepth 100000 in
theorem play_bad {ad : Option Addr} {cap m : Nat} (x : Int) (w : World) (hx : ¬ (2 ≤ x ∧ x ≤ 64)) : Calls Try.prog 15 #[.int .i64 x, .slice ad m cap] w fun e w' => e = .returned (.tuple #[.slice none 0 0, .slice none 0 0, .agg #[.slice none 0 0, .int .i64 0, .int .i64 0, .int .i64 0], .int .i64 2]) ∧ Below w.heap.size w w' := by
  have B0 := Lib.hid (below_alloc w (.cells #[.slice none 0 0, .int .i64 0, .int .i64 0, .int .i64 0] 24))
  have Z0 := Lib.hid (heap_alloc_new w (.cells #[.slice none 0 0, .int .i64 0, .int .i64 0, .int .i64 0] 24))
  go_enter Try.func15, Try.ntmps15
  go_upto_region 1 with fail
  generalize w.alloc (.cells #[.slice none 0 0, .int .i64 0, .int .i64 0, .int .i64 0] 24) = X at B0 Z0 ⊢
  go_wp2_with (first
    | (go_at_call 11; (with_reducible refine (new_bad x _ hx).mono ?_); rintro e w1 ⟨rfl, hb⟩; have B2 := Lib.hid (pstep (pstep B0.out hb) (below_alloc w1 (.cells #[.slice none 0 0, .int .i64 0, .int .i64 0, .int .i64 0] 24))); have Z2 := Lib.hid (heap_step (heap_step Z0.out hb) (below_alloc w1 (.cells #[.slice none 0 0, .int .i64 0, .int .i64 0, .int .i64 0] 24))); have G2 := four_at Z2.out; have F2 := (fun i => frozen_of_row _ w.heap.size i _ _ Z2.out); have l2 := heap_lt Z2.out; clear hb)
    | fail)
  refine bodyPost_ret (results_tmp2_row_tmp1 rfl _ _ w.heap.size 24 #[.slice none 0 0, .int .i64 0, .int .i64 0, .int .i64 0] (0, 0) _ rfl (four_set Z2.out) Try.underlying24 rfl size_ring) rfl ?_
  exact ⟨rfl, four_below _ _ _ _ B2.out (Nat.le_refl _)⟩
theorem fin_out {w wr : World} {E U B n m A tc : Nat} {ta : Option Addr} {cs : List CeR} {g t k : Nat} {es : List Int} {s : StG} (h : LpR w wr E U B 0 n n m cs g t k es (.slice ta A tc) A s.taken) (ht : RiR.Tells n ⟨cs, g, t, k⟩ s ∧ IdxG n ⟨cs, g, t, k⟩ s) :
    PlayOut w n m A es s.taken s (.returned (.tuple #[.slice (some ⟨E, 0, none⟩) m m, .slice ta A tc, .agg #[.slice (some ⟨B, 0, none⟩) n n, .int .i64 (g : Nat), .int .i64 (t : Nat), .int .i64 (k : Nat)], .int .i64 0])) ((((wr.setCell ⟨w.heap.size, 0, none⟩ (.slice (some ⟨B, 0, none⟩) n n)).setCell ⟨w.heap.size, 1, none⟩ (.int .i64 (g : Nat))).setCell ⟨w.heap.size, 2, none⟩ (.int .i64 (t : Nat))).setCell ⟨w.heap.size, 3, none⟩ (.int .i64 (k : Nat))).drew := by
  have n1 := que_ne h.q h.z (by decide)
  have n2 := que_ne h.t h.z (by decide)
  have D : ∀ X : World, Below X.heap.size X X.drew := fun X => (Below.refl _ _).drew
  have h4 := fun j (hj : j ≠ w.heap.size) => four_other wr (b := w.heap.size) (k := j) (.slice (some ⟨B, 0, none⟩) n n) (.int .i64 (g : Nat)) (.int .i64 (t : Nat)) (.int .i64 (k : Nat)) hj
  have hE := h.e.same (h4 _ (err_ne h.e h.z (by decide)).symm)
  exact ⟨E, ta, tc, _, _, cs, g, t, k, rfl, ht.1, ht.2, hE.same rfl, que_step (que_set (a := ⟨w.heap.size, 3, none⟩) (que_set (a := ⟨w.heap.size, 2, none⟩) (que_set (a := ⟨w.heap.size, 1, none⟩) (que_set (a := ⟨w.heap.size, 0, none⟩) h.t n2 _) n2 _) n2 _) n2 _) (D _), que_step (que_four h.q n1 _ _ _ _) (D _), pstep (four_below _ _ _ _ h.b (Nat.le_refl _)) (D _)⟩
set_option maxHeartbeats 4000000 in
set_option maxRecDepth 100000 in
theorem play_ok {ad : Option Addr} {cap m : Nat} {ops : List RoT} (n : Nat) (w : World) (h2 : 2 ≤ n) (h64 : n ≤ 64) (HA : Hid (shRo.At w ad cap ops)) (hm : Hid (ops.length = m)) (hmb : m ≤ 10000000000000) (s : StG) (hs : Hid (runG n newG ops = s)) (es : List Int) (hes : Hid (errsG n newG ops = es)) (A : Nat) (hA : Hid (s.taken.length = A)) :
    Calls Try.prog 15 #[.int .i64 (n : Nat), .slice ad m cap] w (PlayOut w n m A es s.taken s) := by
  obtain ⟨i0, hi, hz0, hz1, hz2⟩ := info_parts info_errno
  obtain ⟨j0, hj, hy0, hy1, hy2⟩ := info_parts info_int
  have hb0 : i0.bytes * m ≤ 281474976710656 := by rw [hz2]; omega
  have hmx : m ≤ maxLen := by unfold maxLen; omega
  have B0 := Lib.hid (below_alloc w (.cells #[.slice none 0 0, .int .i64 0, .int .i64 0, .int .i64 0] 24))
  have Z0 := Lib.hid (heap_alloc_new w (.cells #[.slice none 0 0, .int .i64 0, .int .i64 0, .int .i64 0] 24))
  go_enter Try.func15, Try.ntmps15
  go_upto_region 1 with fail
  generalize w.alloc (.cells #[.slice none 0 0, .int .i64 0, .int .i64 0, .int .i64 0] 24) = X at B0 Z0 ⊢
  have lX := heap_lt Z0.out
  have HXL := Lib.hid lX
  clear lX
  go_upto_region 4 with (first
    | (go_at_call 11; (with_reducible refine (new_ok n _ h2 h64).mono ?_); rintro e w1 ⟨B, rfl, q1, hb⟩; have B1 := Lib.hid (pstep B0.out hb); have Z1 := Lib.hid (heap_step Z0.out hb); have Q1 := Lib.hid (que_base q1 B0.out.size); have S1 := Lib.hid (Nat.lt_of_lt_of_le HXL.out hb.size); clear q1 hb)
    | fail)
  have B2 := Lib.hid (pstep B1.out (below_alloc w1 (.cells #[.slice (some ⟨B, 0, none⟩) n n, .int .i64 0, .int .i64 0, .int .i64 0] 24)))
  have Z2 := Lib.hid (heap_step Z1.out (below_alloc w1 (.cells #[.slice (some ⟨B, 0, none⟩) n n, .int .i64 0, .int .i64 0, .int .i64 0] 24)))
  have Q2 := Lib.hid (que_step Q1.out (below_alloc w1 (.cells #[.slice (some ⟨B, 0, none⟩) n n, .int .i64 0, .int .i64 0, .int .i64 0] 24)))
  have U2 := Lib.hid (heap_alloc_new w1 (.cells #[.slice (some ⟨B, 0, none⟩) n n, .int .i64 0, .int .i64 0, .int .i64 0] 24))
  generalize w1.alloc (.cells #[.slice (some ⟨B, 0, none⟩) n n, .int .i64 0, .int .i64 0, .int .i64 0] 24) = w2 at B2 Z2 Q2 U2 ⊢
  have S2 : Hid (w.heap.size < w1.heap.size) := S1
  generalize w1.heap.size = U at S2 U2 ⊢
  clear B0 Z0 HXL B1 Z1 Q1 S1
  have hs2 := B2.out.size
  go_upto_region 5 with (first
    | (at_make; refine wpList_make_full _ rfl _ _ 34 rfl w.heap.size 27 i0 _ 1 Try.underlying34 hi hz0 hz1 .i64 .i64 _ _ m rfl rfl rfl rfl hb0 hmx hs2 ?_; intro w3 hown hgrow)
    | fail)
  have L0 : LpR w w3 w2.heap.size U B 0 n n m (List.replicate n (false, 0)) 0 0 0 [] (.slice none 0 0) 0 [] := by
    have hb3 : Below w2.heap.size w2 w3 := (Below.refl w2.heap.size w2).grown hgrow (Nat.le_refl _) (fun k hk => by cases hk)
    refine ⟨pstep B2.out hb3, heap_step Z2.out hb3, heap_step U2.out hb3, S2.out, que_step Q2.out hb3, ?_, hs2, que_nil _ _ _ _⟩
    obtain ⟨_, h2⟩ := hown
    rcases h2 with ⟨h2, _⟩ | ⟨g, cp, cur, e, _, hc, _, _, hsz, _⟩
    · cases h2
    · simp only [Value.slice.injEq, Option.some.injEq, Addr.mk.injEq, and_true, true_and] at e
      obtain ⟨rfl, rfl⟩ := e
      exact ⟨cur, hc, by simpa using hsz, fun j x hj => by simp at hj⟩
  have H2 := Lib.hid L0
  clear L0 hown hgrow hs2 B2 Z2 Q2 U2 S2
  go_wp2_with fail
  generalize w2.heap.size = E at H2 ⊢
  go_loopw [11, 30] (fun tv i wr => ∃ (k a : Nat) (ta : Option Addr) (tc : Nat) (cs : List CeR) (g t wk : Nat), k ≤ m ∧ i = .int .i64 k ∧ tv = .slice ta a tc ∧ Hid (LpR w wr E U B 0 n n m cs g t wk (errsG n newG (ops.take k)) (.slice ta a tc) a (runG n newG (ops.take k)).taken) ∧ Hid (RiR.Tells n ⟨cs, g, t, wk⟩ (runG n newG (ops.take k)) ∧ IdxG n ⟨cs, g, t, wk⟩ (runG n newG (ops.take k)))) (fun _ i _ => m - (intOf i).toNat)
  case atStart => exact ⟨0, 0, none, 0, List.replicate n (false, 0), 0, 0, 0, Nat.zero_le _, rfl, rfl, H2, Lib.hid ⟨ring_new h2, idx_new n _ rfl⟩⟩
  case round =>
    clear H2
    obtain ⟨k, a, ta, tc, cs, g, t, wk, hk, rfl, rfl, HL, HT⟩ := hrel
    have HLEN : Hid ((errsG n newG (ops.take k)).length = k) := Lib.hid (by rw [errsG_len, List.length_take, hm.out]; omega)
    have htk : a ≤ k := by
      have h1 := taken_new n (ops.take k)
      rw [que_len HL.out.t, List.length_take] at h1
      omega
    obtain ⟨hgn, htn, hkn⟩ := tells_lt HT.out.1
    simp only at hgn htn hkn
    by_cases hlt : k < m
    · obtain ⟨o, ho⟩ : ∃ o, ops[k]? = some o := ⟨ops[k]'(by rw [hm.out]; exact hlt), List.getElem?_eq_getElem _⟩
      have HNE := Lib.hid (errsG_next (n := n) ho newG)
      have HNR := Lib.hid (runG_next (n := n) ho newG)
      obtain ⟨b, off, rfl, hb, e0, e1⟩ := at_ro HA.out ho
      have g0 := (HL.out.b.cell (p := ⟨b, off + k * 2, none⟩) hb).trans e0
      have g1 := (HL.out.b.cell (p := ⟨b, off + k * 2 + 1, none⟩) hb).trans e1
      have hbr : b < wr.heap.size := Nat.lt_of_lt_of_le hb HL.out.b.size
      obtain ⟨kd, d⟩ := o
      simp only at g0 g1
      obtain ⟨st, hst⟩ : ∃ st, runG n newG (ops.take k) = st := ⟨_, rfl⟩
      obtain ⟨ek, hek⟩ : ∃ ek, errsG n newG (ops.take k) = ek := ⟨_, rfl⟩
      rw [hst] at HL HT HNE HNR
      rw [hek] at HL HLEN HNE
      obtain ⟨x, hx⟩ : ∃ x, errG n st ⟨kd, d⟩ = x := ⟨_, rfl⟩
      have HX := Lib.hid hx
      have HN : Hid (errN n g t wk kd = x) := Lib.hid (by rw [← hx, ← err_tie HT.out.1 ⟨kd, d⟩, errN_eq ⟨cs, g, t, wk⟩ hgn htn ⟨kd, d⟩])
      have LA := Lib.hid (HL.out.step (below_alloc wr (.cells #[.int .i64 kd, .int .i64 d] 26)))
      have OA := Lib.hid (heap_alloc_new wr (.cells #[.int .i64 kd, .int .i64 d] 26))
      have UA := four_at LA.out.u
      have lU := heap_lt HL.out.u
      have HEL := Lib.hid HL.out.e.lt
      clear e0 e1 ho hst hek hx
      go_upto_region 10 with (first
        | (go_at_call 20; (with_reducible refine (check_W _ _ n g t wk kd d _ hgn h64 x HN).mono ?_); rintro e w4 ⟨rfl, hb4⟩; have L4 := Lib.hid (LA.out.step hb4); have O4 := Lib.hid (heap_step OA.out hb4); obtain ⟨⟨z4, cz4⟩, fz4⟩ := L4.out.e.cell hlt; have hE4 := L4.out.e.lt; clear hb4)
        | fail)
      have L5 := Lib.hid (L4.out.setE HLEN.out hlt x)
      have O5 : Hid ((w4.setCell ⟨E, k, none⟩ (.int .i64 x)).heap[wr.heap.size]? = some (.cells #[.int .i64 kd, .int .i64 d] 26 (0, 0))) := Lib.hid ((Below.heap_setCell w4 ⟨E, k, none⟩ (.int .i64 x) wr.heap.size (fun e => by have := HEL.out; simp only at e; omega)).trans O4.out)
      have HNE2 : Hid (errsG n newG (ops.take (k + 1)) = ek ++ [x]) := Lib.hid (by rw [HNE.out, HX.out])
      generalize w4.setCell ⟨E, k, none⟩ (.int .i64 x) = w5 at L5 O5 ⊢
      have hxe : (ek ++ [x])[k]? = some x := by rw [List.getElem?_append_right (by rw [HLEN.out]; exact Nat.le_refl _), HLEN.out, Nat.sub_self]; rfl
      have cx := L5.out.e.get hxe
      have hE5 := L5.out.e.lt
      obtain ⟨t0, t1⟩ := pair_at O5.out
      have hO5 := heap_lt O5.out
      have U5 := four_at L5.out.u
      have lU5 := heap_lt L5.out.u
      clear hxe cz4 fz4 hE4 OA LA L4 O4 HNE UA lU HEL HL
      by_cases hx0 : x = 0
      · subst hx0
        have HD : Hid (stepG n st ⟨kd, d⟩ = doG st ⟨kd, d⟩) := Lib.hid (by unfold stepG; rw [if_pos HX.out])
        obtain ⟨⟨cs', g', t', k'⟩, hr'⟩ : ∃ r', doS n ⟨cs, g, t, wk⟩ ⟨kd, d⟩ = r' := ⟨_, rfl⟩
        obtain ⟨y, hy⟩ : ∃ y, gotS ⟨cs, g, t, wk⟩ ⟨kd, d⟩ = y := ⟨_, rfl⟩
        have HR' := Lib.hid hr'
        have HY := Lib.hid hy
        obtain ⟨hd1, hd2⟩ := do_tie HT.out.1 ⟨kd, d⟩ HX.out
        have hd3 := idx_step HT.out.1 HT.out.2 ⟨kd, d⟩ HX.out
        rw [hr'] at hd1 hd3
        rw [hy] at hd2
        have HT' : Hid (RiR.Tells n ⟨cs', g', t', k'⟩ (doG st ⟨kd, d⟩) ∧ IdxG n ⟨cs', g', t', k'⟩ (doG st ⟨kd, d⟩)) := Lib.hid ⟨hd1, hd3⟩
        have HTK := Lib.hid (do_taken HX.out)
        have HGY := Lib.hid hd2
        clear hr' hy hd1 hd2 hd3
        go_upto_region 12 with (first
          | (go_at_call 22; (with_reducible refine (perf_N _ (Lib.hid L5.out.q) g t wk kd d h64 hgn htn hkn HN cs' g' t' k' y HR' HY).mono ?_); rintro e w6 ⟨rfl, q6, e6⟩; have L6 := Lib.hid (L5.out.perf e6 q6); have O6 := Lib.hid ((e6.block _ (heap_lt O5.out) (fun e => que_ne L5.out.q O5.out (by decide) _ rfl (Option.some.inj e).symm)).trans O5.out); clear q6 e6)
          | fail)
        have L7 := Lib.hid (L6.out.step (below_alloc w6 (.cells #[.slice (some ⟨B, 0, none⟩) n n, .int .i64 (g' : Nat), .int .i64 (t' : Nat), .int .i64 (k' : Nat)] 24)))
        have O7 := Lib.hid (heap_step O6.out (below_alloc w6 (.cells #[.slice (some ⟨B, 0, none⟩) n n, .int .i64 (g' : Nat), .int .i64 (t' : Nat), .int .i64 (k' : Nat)] 24)))
        have T7 := Lib.hid (heap_alloc_new w6 (.cells #[.slice (some ⟨B, 0, none⟩) n n, .int .i64 (g' : Nat), .int .i64 (t' : Nat), .int .i64 (k' : Nat)] 24))
        generalize w6.alloc (.cells #[.slice (some ⟨B, 0, none⟩) n n, .int .i64 (g' : Nat), .int .i64 (t' : Nat), .int .i64 (k' : Nat)] 24) = w7 at L7 O7 T7 ⊢
        generalize w6.heap.size = T at T7 ⊢
        clear L5 O5 L6 O6 cx hE5 t0 t1 hO5 U5 lU5 HN HX
        have C7 := four_at T7.out
        have U7 := four_at L7.out.u
        have F7 := fun i => frozen_of_row w7 U i _ _ L7.out.u
        have i7 := heap_lt L7.out.u
        have j7 := heap_lt T7.out
        go_upto_region 13 with fail
        have L8 := Lib.hid (L7.out.put g' t' k')
        have O8 := Lib.hid ((four_other w7 (.slice (some ⟨B, 0, none⟩) n n) (.int .i64 (g' : Nat)) (.int .i64 (t' : Nat)) (.int .i64 (k' : Nat)) (b := U) (fun e => by have h1 := O7.out; rw [e, L7.out.u] at h1; simp at h1)).trans O7.out)
        generalize (((w7.setCell ⟨U, 0, none⟩ (.slice (some ⟨B, 0, none⟩) n n)).setCell ⟨U, 1, none⟩ (.int .i64 (g' : Nat))).setCell ⟨U, 2, none⟩ (.int .i64 (t' : Nat))).setCell ⟨U, 3, none⟩ (.int .i64 (k' : Nat)) = w8 at L8 O8 ⊢
        have T8 := pair_at O8.out
        have j8 := heap_lt O8.out
        clear C7 U7 F7 i7 O7 T7 L7
        by_cases k3 : kd = 3
        · subst k3
          have HTK2 : Hid ((doG st ⟨3, d⟩).taken = st.taken ++ [y]) := Lib.hid (by rw [HTK.out, if_pos rfl, HGY.out])
          have L9 := Lib.hid (L8.out.step (below_alloc w8 (.cells #[.int .i64 y] 3)))
          have X9 := Lib.hid (int_lit w8 y 1)
          go_wp2_with (first
            | (at_builtin; refine wpList_append_que shI rfl _ _ 35 rfl w.heap.size 3 j0 _ 8 Try.underlying35 hj hy0 hy1 hy2 rfl (.slice ta a tc) a st.taken [y] rfl L9.out.t (some ⟨w8.heap.size, 0, none⟩) 1 1 rfl (Lib.hid rfl) X9.out (by unfold maxLen; omega) (by omega) L9.out.b.size ?_; intro ra9 rc9 w9 own9 grow9 _; have L10 := Lib.hid (L9.out.took grow9 own9); clear own9 grow9)
            | fail)
          go_roundw
          case rel => exact ⟨k + 1, a + 1, ra9, rc9, cs', g', t', k', by omega, by go_num, rfl, Lib.hid (by rw [HNE2.out, HNR.out, HD.out, HTK2.out]; exact L10.out), Lib.hid (by rw [HNR.out, HD.out]; exact HT'.out)⟩
          case measure => simp [intOf]; omega
        · have hk3 : (kd == 3) = false := by simpa using k3
          have HTK2 : Hid ((doG st ⟨kd, d⟩).taken = st.taken) := Lib.hid (by rw [HTK.out, if_neg k3, List.append_nil])
          go_wp2_with fail
          go_roundw
          case rel => exact ⟨k + 1, a, ta, tc, cs', g', t', k', by omega, by go_num, rfl, Lib.hid (by rw [HNE2.out, HNR.out, HD.out, HTK2.out]; exact L8.out), Lib.hid (by rw [HNR.out, HD.out]; exact HT'.out)⟩
          case measure => simp [intOf]; omega
      · have hxb : (x != 0) = true := by simpa using hx0
        have HD : Hid (stepG n st ⟨kd, d⟩ = st) := Lib.hid (by unfold stepG; rw [if_neg (by rw [HX.out]; exact hx0)])
        go_wp2_with fail
        go_roundw
        case rel => exact ⟨k + 1, a, ta, tc, cs, g, t, wk, by omega, by go_num, rfl, Lib.hid (by rw [HNE2.out, HNR.out, HD.out]; exact L5.out), Lib.hid (by rw [HNR.out, HD.out]; exact HT.out)⟩
        case measure => simp [intOf]; omega
    · obtain rfl : k = m := by omega
      have e : ops.take k = ops := by rw [← hm.out, List.take_length]
      rw [e, hs.out] at HT
      rw [e, hs.out, hes.out] at HL
      obtain rfl : A = a := by rw [← hA.out, que_len HL.out.t]
      have G8 := four_at HL.out.u
      have Z8 := four_at HL.out.z
      have F8 := fun i => frozen_of_row wr w.heap.size i _ _ HL.out.z
      have i8 := heap_lt HL.out.u
      have j8 := heap_lt HL.out.z
      clear e htk
      go_wp2_with fail
      go_region
      all_goals go_wp2_with fail
      all_goals refine bodyPost_ret (results_tmp2_row_tmp1 rfl _ _ w.heap.size 24 #[.slice (some ⟨B, 0, none⟩) n n, .int .i64 (g : Nat), .int .i64 (t : Nat), .int .i64 (wk : Nat)] (0, 0) _ rfl (four_set HL.out.z) Try.underlying24 rfl size_ring) rfl ?_
      all_goals exact fin_out HL.out HT.out
end Go.Proofs.Ytipkmmajhhcadaa
