/- Package ring: the walks of isIndex, next, count, check, slices.Clone of cells, Right. -/
import Derived.Test.YtipkmmajhhcadaaRingU
import Derived.Test.YtipkmmajhhcadaaRngM
import Derived.Test.YtipkmmajhhcadaaNum
import Derived.StillTailTactics
import Derived.BigQuiet
import Derived.Deep.QuietTactic
import Derived.RegionTactic
import Derived.Deep.CutRange
import Derived.Deep.RegionLaw
import Derived.Deep.RegionHeld3
namespace Go.Proofs.Ytipkmmajhhcadaa
open Go.RowKit

abbrev tC : TypeId := 47
abbrev tR : TypeId := 24
abbrev tP : TypeId := 26
theorem size_ring : (Try.prog.info? 24).map (·.size) = some 4 := by kernel_rfl
theorem info_cell : (Try.prog.info? 47).map (fun i => (i.zero, i.size, i.bytes)) = some (some (.agg #[.bool false, .int .i64 0]), 2, 16) := by kernel_rfl
theorem info_rop : (Try.prog.info? 26).map (fun i => (i.zero, i.size, i.bytes)) = some (some (.agg #[.int .i64 0, .int .i64 0]), 2, 16) := by kernel_rfl
set_option maxHeartbeats 1000000 in
set_option maxRecDepth 100000 in
theorem isix_W (ad : Option Addr) (cap n : Nat) (g t k : Int) (x : Int) (w : World) (b : Bool) (hb : Hid (decide (0 ≤ x ∧ x < n) = b)) : Calls Try.prog 23 #[.agg #[.slice ad n cap, .int .i64 g, .int .i64 t, .int .i64 k], .int .i64 x] w fun e w' => e = .returned (.bool b) ∧ Below w.heap.size w w' := by
  have B0 := below_alloc w (.cells #[.slice ad n cap, .int .i64 g, .int .i64 t, .int .i64 k] 24)
  by_cases h1 : 0 ≤ x
  · have h1' : decide (x ≥ 0) = true := decide_eq_true h1
    by_cases h2 : x < n
    · have h2' : decide (x < (n : Int)) = true := decide_eq_true h2
      obtain rfl : b = true := by rw [← hb.out]; exact decide_eq_true ⟨h1, h2⟩
      go_enter Try.func23, Try.ntmps23
      go_wp2_with fail
      go_ret
      exact ⟨rfl, B0⟩
    · have h2' : decide (x < (n : Int)) = false := decide_eq_false h2
      obtain rfl : b = false := by rw [← hb.out]; exact decide_eq_false (fun h => h2 h.2)
      go_enter Try.func23, Try.ntmps23
      go_wp2_with fail
      go_ret
      exact ⟨rfl, B0⟩
  · have h1' : decide (x ≥ 0) = false := decide_eq_false h1
    obtain rfl : b = false := by rw [← hb.out]; exact decide_eq_false (fun h => h1 h.1)
    go_enter Try.func23, Try.ntmps23
    go_wp2_with fail
    go_ret
    exact ⟨rfl, B0⟩
theorem next_num {x n q : Nat} (hx : x < n) (hn : n ≤ 64) (hq : wrR n (x + 1) = q) : IntKind.i64.wrap ((x : Int) + 1) = (x : Int) + 1 ∧ ((x : Int) + 1).tmod (n : Int) = (q : Int) ∧ ¬ (n : Int) = 0 ∧ IntKind.i64.wrap (q : Int) = (q : Int) := by
  have hl : q < n := by rw [← hq]; unfold wrR; split <;> omega
  refine ⟨by rw [IntKind.wrap_i64]; omega, ?_, by omega, by rw [IntKind.wrap_i64]; omega⟩
  rw [← hq, wr_mod (by omega)]
  exact Int.ofNat_tmod (x + 1) n
theorem count_num {a b n q : Nat} (ha : a < n) (hb : b < n) (hn : n ≤ 64) (hq : dsR n a b = q) : IntKind.i64.wrap ((b : Int) - a) = (b : Int) - a ∧ IntKind.i64.wrap ((b : Int) - a + n) = (b : Int) - a + n ∧ ((b : Int) - a + n).tmod (n : Int) = (q : Int) ∧ ¬ (n : Int) = 0 ∧ IntKind.i64.wrap (q : Int) = (q : Int) := by
  have hl : q < n := by rw [← hq]; exact ds_lt ha hb
  refine ⟨by rw [IntKind.wrap_i64]; omega, by rw [IntKind.wrap_i64]; omega, ?_, by omega, by rw [IntKind.wrap_i64]; omega⟩
  have e : (b : Int) - a + n = ((b + n - a : Nat) : Int) := by omega
  rw [e, ← hq]
  refine (Int.ofNat_tmod (b + n - a) n).symm.trans ?_
  congr 1
  unfold dsR
  split
  · have : b + n - a = (b - a) + n := by omega
    rw [this, Nat.add_mod_right, Nat.mod_eq_of_lt (by omega)]
  · rw [Nat.mod_eq_of_lt (by omega)]
set_option maxHeartbeats 1000000 in
set_option maxRecDepth 100000 in
theorem next_W (ad : Option Addr) (cap n : Nat) (g t k : Int) (x : Nat) (w : World) (hx : x < n) (hn : n ≤ 64) (q : Nat) (hq : Hid (wrR n (x + 1) = q)) : Calls Try.prog 26 #[.agg #[.slice ad n cap, .int .i64 g, .int .i64 t, .int .i64 k], .int .i64 (x : Nat)] w fun e w' => e = .returned (.int .i64 (q : Nat)) ∧ Below w.heap.size w w' := by
  have B0 := below_alloc w (.cells #[.slice ad n cap, .int .i64 g, .int .i64 t, .int .i64 k] 24)
  obtain ⟨e1, e2, e3, e4⟩ := next_num hx hn hq.out
  go_enter Try.func26, Try.ntmps26
  go_wp2_with fail
  go_ret
  exact ⟨rfl, B0⟩
set_option maxHeartbeats 1000000 in
set_option maxRecDepth 100000 in
theorem count_W (ad : Option Addr) (cap n : Nat) (g t k : Int) (a b : Nat) (w : World) (ha : a < n) (hb : b < n) (hn : n ≤ 64) (q : Nat) (hq : Hid (dsR n a b = q)) : Calls Try.prog 24 #[.agg #[.slice ad n cap, .int .i64 g, .int .i64 t, .int .i64 k], .int .i64 (a : Nat), .int .i64 (b : Nat)] w fun e w' => e = .returned (.int .i64 (q : Nat)) ∧ Below w.heap.size w w' := by
  have B0 := below_alloc w (.cells #[.slice ad n cap, .int .i64 g, .int .i64 t, .int .i64 k] 24)
  obtain ⟨e1, e2, e3, e4, e5⟩ := count_num ha hb hn hq.out
  go_enter Try.func24, Try.ntmps24
  go_wp2_with fail
  go_ret
  exact ⟨rfl, B0⟩
/-- The boxes of a ring and an operation. -/
structure Bp (w W : World) (v : Value) (g t k kd d : Int) : Prop where
  b : Below w.heap.size w W
  r : W.heap[w.heap.size]? = some (.cells #[v, .int .i64 g, .int .i64 t, .int .i64 k] tR (0, 0))
  o : W.heap[w.heap.size + 1]? = some (.cells #[.int .i64 kd, .int .i64 d] tP (0, 0))
section
variable {w W W' : World} {v : Value} {g t k kd d : Int}
theorem bp_new (w : World) (v : Value) (g t k kd d : Int) : Bp w ((w.alloc (.cells #[v, .int .i64 g, .int .i64 t, .int .i64 k] tR)).alloc (.cells #[.int .i64 kd, .int .i64 d] tP)) v g t k kd d :=
  ⟨below_two w _ _, heap_step (heap_alloc_new w _) (below_alloc _ _), heap_alloc2_new w _ _⟩
theorem Bp.step (h : Bp w W v g t k kd d) (hb : Below W.heap.size W W') : Bp w W' v g t k kd d := ⟨pstep h.b hb, heap_step h.r hb, heap_step h.o hb⟩
theorem Bp.all (h : Bp w W v g t k kd d) : Bp w W v g t k kd d ∧ W.cell? ⟨w.heap.size, 0, none⟩ = some v ∧ W.cell? ⟨w.heap.size, 1, none⟩ = some (.int .i64 g) ∧ W.cell? ⟨w.heap.size, 2, none⟩ = some (.int .i64 t) ∧ W.cell? ⟨w.heap.size, 3, none⟩ = some (.int .i64 k) := ⟨h, four_at h.r⟩
end
/-- The error, by indices. -/
def errN (n : Nat) (g t k : Nat) (kd : Int) : Int :=
  if kd < 1 ∨ 3 < kd then 5
  else if kd = 1 then if wrR n (g + 1) = t then 7 else 0
  else if kd = 2 then if k = g then 3 else 0
  else if t = k then 3 else 0
theorem wr_full {n g t : Nat} (hg : g < n) (ht : t < n) : wrR n (g + 1) = t ↔ dsR n t g + 1 = n := by
  unfold wrR dsR
  split <;> split <;> omega
theorem errN_eq {n : Nat} (r : RiR) (hg : r.give < n) (ht : r.take < n) (o : RoT) : errS n r o = errN n r.give r.take r.work o.k := by
  unfold errS errN
  have e : (dsR n r.take r.give + 1 = n) = (wrR n (r.give + 1) = r.take) := propext (wr_full hg ht).symm
  simp only [e]
theorem nat_eq {a b : Nat} (x : Bool) (h : decide (a = b) = x) : ((a : Int) == (b : Int)) = x := by
  rw [← h]
  by_cases e : a = b
  · subst e; simp
  · have : ¬ (a : Int) = b := by omega
    simp [e, this]
set_option maxHeartbeats 2000000 in
set_option maxRecDepth 100000 in
theorem check_W (ad : Option Addr) (cap n g t k : Nat) (kd d : Int) (w : World) (hg : g < n) (hn : n ≤ 64) (x : Int) (hx : Hid (errN n g t k kd = x)) : Calls Try.prog 20 #[.agg #[.slice ad n cap, .int .i64 (g : Nat), .int .i64 (t : Nat), .int .i64 (k : Nat)], .agg #[.int .i64 kd, .int .i64 d]] w fun e w' => e = .returned (.int .i64 x) ∧ Below w.heap.size w w' := by
  have B0 := below_two w (.cells #[.slice ad n cap, .int .i64 (g : Nat), .int .i64 (t : Nat), .int .i64 (k : Nat)] 24) (.cells #[.int .i64 kd, .int .i64 d] 26)
  have P0 := Lib.hid (bp_new w (.slice ad n cap) (g : Nat) (t : Nat) (k : Nat) kd d)
  by_cases k1 : kd = 1
  · subst k1
    obtain ⟨q, hq⟩ : ∃ q, wrR n (g + 1) = q := ⟨_, rfl⟩
    have HQ := Lib.hid hq
    have hx1 : (if q = t then 7 else 0) = x := by rw [← hq, ← hx.out]; rfl
    clear hx hq
    go_enter Try.func20, Try.ntmps20
    go_upto_region 4 with fail
    generalize (w.alloc (.cells #[.slice ad n cap, .int .i64 (g : Nat), .int .i64 (t : Nat), .int .i64 (k : Nat)] 24)).alloc (.cells #[.int .i64 1, .int .i64 d] 26) = X at P0 ⊢
    have PD := (P0.out.step (Below.refl X.heap.size X).drew).all
    clear B0
    refine wp_region_noPanic ?_
    refine wp_region_held_drew (S := fun w' => Bp w w' (.slice ad n cap) (g : Nat) (t : Nat) (k : Nat) 1 d ∧ w'.cell? ⟨w.heap.size, 0, none⟩ = some (.slice ad n cap) ∧ w'.cell? ⟨w.heap.size, 1, none⟩ = some (.int .i64 (g : Nat)) ∧ w'.cell? ⟨w.heap.size, 2, none⟩ = some (.int .i64 (t : Nat)) ∧ w'.cell? ⟨w.heap.size, 3, none⟩ = some (.int .i64 (k : Nat))) (by kernel_rfl) (PD) (fun hHeld => ?_)
    refine wpAnyH_take (i := 0) (v := ?_) rfl (by kernel_rfl) (by kernel_rfl) (by kernel_rfl) (fun _ _ _ h => h) (Or.inl ⟨by rfl, ?_⟩) (by assumption) ?_
    rotate_left
    · (intro wz hSw; (try dsimp only at hSw); go_simp; try with_reducible rfl)
    try simp only [List.getElem_toArray, List.getElem_cons_zero, Act.put, List.setIfInBounds_toArray, List.set_cons_zero, List.set_cons_succ]
    refine wpAnyH_take (i := 1) (v := ?_) rfl (by kernel_rfl) (by kernel_rfl) (by kernel_rfl) (fun _ _ _ h => h) (Or.inl ⟨by rfl, ?_⟩) (by assumption) ?_
    rotate_left
    · (intro wz hSw; (try dsimp only at hSw); go_simp; try with_reducible rfl)
    try simp only [List.getElem_toArray, List.getElem_cons_zero, List.getElem_cons_succ, Act.put, List.setIfInBounds_toArray, List.set_cons_zero, List.set_cons_succ]
    refine wpAnyH_take (i := 2) (v := ?_) rfl (by kernel_rfl) (by kernel_rfl) (by kernel_rfl) (fun _ _ _ h => h) (Or.inl ⟨by rfl, ?_⟩) (by assumption) ?_
    rotate_left
    · (intro wz hSw; (try dsimp only at hSw); go_simp; try with_reducible rfl)
    try simp only [List.getElem_toArray, List.getElem_cons_zero, List.getElem_cons_succ, Act.put, List.setIfInBounds_toArray, List.set_cons_zero, List.set_cons_succ]
    refine wpAnyH_take (i := 4) (v := ?_) rfl (by kernel_rfl) (by kernel_rfl) (by kernel_rfl) (fun _ _ _ h => h) (Or.inl ⟨by rfl, ?_⟩) (by assumption) ?_
    rotate_left
    · (intro wz hSw; (try dsimp only at hSw); go_simp; try with_reducible rfl)
    try simp only [List.getElem_toArray, List.getElem_cons_zero, List.getElem_cons_succ, Act.put, List.setIfInBounds_toArray, List.set_cons_zero, List.set_cons_succ]
    refine wpAnyH_take (i := 5) (v := ?_) rfl (by kernel_rfl) (by kernel_rfl) (by kernel_rfl) (fun _ _ _ h => h) (Or.inl ⟨by rfl, ?_⟩) (by assumption) ?_
    rotate_left
    · (intro wz hSw; (try dsimp only at hSw); go_simp; try with_reducible rfl)
    try simp only [List.getElem_toArray, List.getElem_cons_zero, List.getElem_cons_succ, Act.put, List.setIfInBounds_toArray, List.set_cons_zero, List.set_cons_succ]
    refine wpAnyH_ready (rs := [3]) (by kernel_rfl) (by simp) ?_
    refine AllReadyH.cons rfl (fun K hK => ?_) AllReadyH.nil
    go_simp
    go_at_call 26
    refine (next_W _ _ _ _ _ _ _ _ hg hn q HQ).mono ?_
    rintro e wE ⟨rfl, hb⟩
    go_wp2_with fail
    refine hK.out _ _ ((hHeld.1.step hb).all) (fun hHeld => ?_)
    try simp only [List.getElem_toArray, List.getElem_cons_zero, List.getElem_cons_succ, Act.put, List.setIfInBounds_toArray, List.set_cons_zero, List.set_cons_succ]
    refine wpAnyH_take (i := 6) (v := ?_) rfl (by kernel_rfl) (by kernel_rfl) (by kernel_rfl) (fun _ _ _ h => h) (Or.inl ⟨by rfl, ?_⟩) (by assumption) ?_
    rotate_left
    · (intro wz hSw; (try dsimp only at hSw); go_simp; try with_reducible rfl)
    try simp only [List.getElem_toArray, List.getElem_cons_zero, List.getElem_cons_succ, Act.put, List.setIfInBounds_toArray, List.set_cons_zero, List.set_cons_succ]
    refine wpAnyH_done (by kernel_rfl) ?_ _
    refine NoPanic.normal ?_
    have E9 := hHeld.1.b
    by_cases h : q = t
    · obtain rfl : x = 7 := by rw [← hx1, if_pos h]
      have h1 : ((q : Int) == (t : Int)) = true := nat_eq true (decide_eq_true h)
      go_wp2_with fail
      go_ret
      exact ⟨rfl, E9⟩
    · obtain rfl : x = 0 := by rw [← hx1, if_neg h]
      have h1 : ((q : Int) == (t : Int)) = false := nat_eq false (decide_eq_false h)
      go_wp2_with fail
      go_ret
      exact ⟨rfl, E9⟩
  by_cases k2 : kd = 2
  · subst k2
    clear k1 P0
    by_cases h : k = g
    · obtain rfl : x = 3 := by rw [← hx.out]; unfold errN; rw [if_neg (by decide), if_neg (by decide), if_pos rfl, if_pos h]
      subst h
      go_enter Try.func20, Try.ntmps20
      go_wp2_with fail
      go_ret
      exact ⟨rfl, B0⟩
    · obtain rfl : x = 0 := by rw [← hx.out]; unfold errN; rw [if_neg (by decide), if_neg (by decide), if_pos rfl, if_neg h]
      have h1 : ((k : Int) == (g : Int)) = false := nat_eq false (decide_eq_false h)
      go_enter Try.func20, Try.ntmps20
      go_wp2_with fail
      go_ret
      exact ⟨rfl, B0⟩
  by_cases k3 : kd = 3
  · subst k3
    clear k1 k2 P0
    by_cases h : t = k
    · obtain rfl : x = 3 := by rw [← hx.out]; unfold errN; rw [if_neg (by decide), if_neg (by decide), if_neg (by decide), if_pos h]
      subst h
      go_enter Try.func20, Try.ntmps20
      go_wp2_with fail
      go_ret
      exact ⟨rfl, B0⟩
    · obtain rfl : x = 0 := by rw [← hx.out]; unfold errN; rw [if_neg (by decide), if_neg (by decide), if_neg (by decide), if_neg h]
      have h1 : ((t : Int) == (k : Int)) = false := nat_eq false (decide_eq_false h)
      go_enter Try.func20, Try.ntmps20
      go_wp2_with fail
      go_ret
      exact ⟨rfl, B0⟩
  have b1 : (kd == 1) = false := by simpa using k1
  have b2 : (kd == 2) = false := by simpa using k2
  have b3 : (kd == 3) = false := by simpa using k3
  obtain rfl : x = 5 := by rw [← hx.out]; unfold errN; rw [if_pos (by omega)]
  clear P0
  go_enter Try.func20, Try.ntmps20
  go_wp2_with fail
  go_ret
  exact ⟨rfl, B0⟩
end Go.Proofs.Ytipkmmajhhcadaa
