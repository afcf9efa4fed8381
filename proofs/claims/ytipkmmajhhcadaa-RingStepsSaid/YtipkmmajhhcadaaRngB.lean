/- Package ring: the walks of slices.Clone of cells and Right. -/
import Derived.Test.YtipkmmajhhcadaaRngA
import Derived.Lib.SliceRun
namespace Go.Proofs.Ytipkmmajhhcadaa
open Go.RowKit

set_option maxHeartbeats 1000000 in
set_option maxRecDepth 100000 in
theorem clone_C (xs : List CeR) (sa : Option Addr) (n c : Nat) (w : World) (H1 : Hid (xs.length = n)) (HA : Hid (shCe.At w sa c xs)) (hn : n ≤ 64) :
    Calls Try.prog 21 #[.slice sa n c] w fun e w' => ∃ ra rc, e = .returned (.slice ra n rc) ∧ Que shCe w' w.heap.size tC (.slice ra n rc) n xs ∧ Below w.heap.size w w' := by
  obtain ⟨i0, hi, hz0, hz1, hz2⟩ := info_parts' info_cell
  have qn : ∀ (w : World) (a : Option Addr) (n c n' c' : Nat), (binOp .eql 22 (.slice a n c) (.slice none n' c')).run Try.prog w = .ok (.bool a.isNone) w := fun w a n c n' c' => Lib.run_eql_slice_nil w _ _ a n c n' c' Try.underlying22
  cases sa with
  | none =>
    obtain ⟨rfl, hx⟩ := HA.out.1 rfl
    have hn0 : n = 0 := by rw [← H1.out, hx]; rfl
    subst hn0 hx
    clear HA H1
    go_enter Try.func21, Try.ntmps21
    go_wp2_with fail
    go_ret
    exact ⟨_, _, rfl, que_nil _ _ _ _, Below.refl _ _⟩
  | some a =>
    have hown : (w.alloc (.cells #[] 47)).ownsRow w.heap.size 47 2 (.slice (some ⟨w.heap.size, 0, none⟩) 0 0) 0 [] := World.ownsRow_made w #[] 0 (Nat.le_refl _) (by decide) rfl
    have HO := Lib.hid hown
    have HA2 := Lib.hid (HA.out.step (below_alloc w (.cells #[] 47)))
    clear hown
    go_enter Try.func21, Try.ntmps21
    go_wp2_with (first
      | (at_builtin; refine wpList_append_at shCe rfl _ _ 22 rfl w.heap.size 47 i0 _ 16 Try.underlying22 hi hz0 hz1 hz2 rfl (.slice (some ⟨w.heap.size, 0, none⟩) 0 0) [] xs rfl HO.out (some a) n c rfl H1 HA2.out ?h63 ?hby ?hba ?_)
      | fail)
    case h63 => simp; unfold maxLen; omega
    case hby => simp; omega
    case hba => simp
    intro ra rc w3 own3 grow3 _
    have B3 : Below w.heap.size w w3 := (below_alloc w _).grown grow3 (by simp) (fun k hk => by simp [Value.ownBlock] at hk; omega)
    have O3 := Lib.hid (que_own (S := shCe) own3 H1.out)
    clear own3 grow3
    go_wp2_with fail
    go_ret
    exact ⟨_, _, rfl, O3.out, B3⟩
/-- The box of a ring. -/
structure Br (w W : World) (v : Value) (g t k : Int) : Prop where
  b : Below w.heap.size w W
  r : W.heap[w.heap.size]? = some (.cells #[v, .int .i64 g, .int .i64 t, .int .i64 k] tR (0, 0))
section
variable {w W W' : World} {v : Value} {g t k : Int}
theorem br_new (w : World) (v : Value) (g t k : Int) : Br w (w.alloc (.cells #[v, .int .i64 g, .int .i64 t, .int .i64 k] tR)) v g t k := ⟨below_alloc w _, heap_alloc_new w _⟩
theorem Br.step (h : Br w W v g t k) (hb : Below W.heap.size W W') : Br w W' v g t k := ⟨pstep h.b hb, heap_step h.r hb⟩
theorem Br.all (h : Br w W v g t k) : Br w W v g t k ∧ W.cell? ⟨w.heap.size, 0, none⟩ = some v ∧ W.cell? ⟨w.heap.size, 1, none⟩ = some (.int .i64 g) ∧ W.cell? ⟨w.heap.size, 2, none⟩ = some (.int .i64 t) ∧ W.cell? ⟨w.heap.size, 3, none⟩ = some (.int .i64 k) := ⟨h, four_at h.r⟩
end
set_option maxHeartbeats 4000000 in
set_option maxRecDepth 100000 in
theorem right_num (ad : Option Addr) (cap n : Nat) (g t k : Int) (w : World) (h : ¬ (2 ≤ n ∧ n ≤ 64 ∧ (0 ≤ g ∧ g < n) ∧ (0 ≤ t ∧ t < n) ∧ (0 ≤ k ∧ k < n))) : Calls Try.prog 13 #[.agg #[.slice ad n cap, .int .i64 g, .int .i64 t, .int .i64 k]] w fun e w' => e = .returned (.bool false) ∧ Below w.heap.size w w' := by
  have R0 := Lib.hid (br_new w (.slice ad n cap) g t k)
  by_cases h1 : n < 2
  · have h1' : decide ((n : Int) < 2) = true := decide_eq_true (by omega)
    go_enter Try.func13, Try.ntmps13
    go_wp2_with fail
    go_ret
    exact ⟨rfl, R0.out.b⟩
  have h1' : decide ((n : Int) < 2) = false := decide_eq_false (by omega)
  by_cases h2 : 64 < n
  · have h2' : decide ((n : Int) > 64) = true := decide_eq_true (by omega)
    go_enter Try.func13, Try.ntmps13
    go_wp2_with fail
    go_ret
    exact ⟨rfl, R0.out.b⟩
  have h2' : decide ((n : Int) > 64) = false := decide_eq_false (by omega)
  by_cases Hg : 0 ≤ g ∧ g < n
  rotate_left
  · have Ig : Hid (decide (0 ≤ g ∧ g < n) = false) := Lib.hid (decide_eq_false Hg)
    clear h
    go_enter Try.func13, Try.ntmps13
    go_upto_region 1 with fail
    generalize w.alloc (.cells #[.slice ad n cap, .int .i64 g, .int .i64 t, .int .i64 k] 24) = X at R0 ⊢
    have G0 := four_at R0.out.r
    have l0 := heap_lt R0.out.r
    go_wp2_with (first
      | (go_at_call 23; (with_reducible refine (isix_W ad cap n _ _ _ g _ false Ig).mono ?_); rintro e w1 ⟨rfl, hb1⟩; have R1 := Lib.hid (R0.out.step hb1); have G1 := four_at R1.out.r; have l1 := heap_lt R1.out.r; clear hb1)
      | fail)
    go_ret
    exact ⟨rfl, R1.out.b⟩
  have Ig : Hid (decide (0 ≤ g ∧ g < n) = true) := Lib.hid (decide_eq_true Hg)
  by_cases Ht : 0 ≤ t ∧ t < n
  rotate_left
  · have It : Hid (decide (0 ≤ t ∧ t < n) = false) := Lib.hid (decide_eq_false Ht)
    clear h
    go_enter Try.func13, Try.ntmps13
    go_upto_region 1 with fail
    generalize w.alloc (.cells #[.slice ad n cap, .int .i64 g, .int .i64 t, .int .i64 k] 24) = X at R0 ⊢
    have G0 := four_at R0.out.r
    have l0 := heap_lt R0.out.r
    go_wp2_with (first
      | (go_at_call 23; (with_reducible refine (isix_W ad cap n _ _ _ g _ true Ig).mono ?_); rintro e w1 ⟨rfl, hb1⟩; have R1 := Lib.hid (R0.out.step hb1); have G1 := four_at R1.out.r; have l1 := heap_lt R1.out.r; clear hb1)
      | (go_at_call 23; (with_reducible refine (isix_W ad cap n _ _ _ t _ false It).mono ?_); rintro e w2 ⟨rfl, hb2⟩; have R2 := Lib.hid (R1.out.step hb2); have G2 := four_at R2.out.r; have l2 := heap_lt R2.out.r; clear hb2)
      | fail)
    go_ret
    exact ⟨rfl, R2.out.b⟩
  have It : Hid (decide (0 ≤ t ∧ t < n) = true) := Lib.hid (decide_eq_true Ht)
  have Ik : Hid (decide (0 ≤ k ∧ k < n) = false) := Lib.hid (decide_eq_false (fun q => h ⟨by omega, by omega, Hg, Ht, q⟩))
  clear h
  go_enter Try.func13, Try.ntmps13
  go_upto_region 1 with fail
  generalize w.alloc (.cells #[.slice ad n cap, .int .i64 g, .int .i64 t, .int .i64 k] 24) = X at R0 ⊢
  have G0 := four_at R0.out.r
  have l0 := heap_lt R0.out.r
  go_wp2_with (first
    | (go_at_call 23; (with_reducible refine (isix_W ad cap n _ _ _ g _ true Ig).mono ?_); rintro e w1 ⟨rfl, hb1⟩; have R1 := Lib.hid (R0.out.step hb1); have G1 := four_at R1.out.r; have l1 := heap_lt R1.out.r; clear hb1)
    | (go_at_call 23; (with_reducible refine (isix_W ad cap n _ _ _ t _ true It).mono ?_); rintro e w2 ⟨rfl, hb2⟩; have R2 := Lib.hid (R1.out.step hb2); have G2 := four_at R2.out.r; have l2 := heap_lt R2.out.r; clear hb2)
    | (go_at_call 23; (with_reducible refine (isix_W ad cap n _ _ _ k _ false Ik).mono ?_); rintro e w3 ⟨rfl, hb3⟩; have R3 := Lib.hid (R2.out.step hb3); have G3 := four_at R3.out.r; have l3 := heap_lt R3.out.r; clear hb3)
    | fail)
  go_ret
  exact ⟨rfl, R3.out.b⟩
set_option maxHeartbeats 4000000 in
set_option maxRecDepth 100000 in
theorem right_order (ad : Option Addr) (cap n : Nat) (w : World) (g t k : Nat) (hN : 2 ≤ n) (hM : n ≤ 64) (hg : g < n) (ht : t < n) (hk : k < n) (p q : Nat) (HP : Hid (dsR n t k = p)) (HQ : Hid (dsR n t g = q)) (h : q < p) : Calls Try.prog 13 #[.agg #[.slice ad n cap, .int .i64 (g : Nat), .int .i64 (t : Nat), .int .i64 (k : Nat)]] w fun e w' => e = .returned (.bool false) ∧ Below w.heap.size w w' := by
  have R0 := Lib.hid (br_new w (.slice ad n cap) (g : Nat) (t : Nat) (k : Nat))
  have h1' : decide ((n : Int) < 2) = false := decide_eq_false (by omega)
  have h2' : decide ((n : Int) > 64) = false := decide_eq_false (by omega)
  have Ig : Hid (decide (0 ≤ (g : Int) ∧ (g : Int) < n) = true) := Lib.hid (decide_eq_true ⟨by omega, by omega⟩)
  have It : Hid (decide (0 ≤ (t : Int) ∧ (t : Int) < n) = true) := Lib.hid (decide_eq_true ⟨by omega, by omega⟩)
  have Ik : Hid (decide (0 ≤ (k : Int) ∧ (k : Int) < n) = true) := Lib.hid (decide_eq_true ⟨by omega, by omega⟩)
  go_enter Try.func13, Try.ntmps13
  go_upto_region 1 with fail
  generalize w.alloc (.cells #[.slice ad n cap, .int .i64 (g : Nat), .int .i64 (t : Nat), .int .i64 (k : Nat)] 24) = X at R0 ⊢
  have G0 := four_at R0.out.r
  have l0 := heap_lt R0.out.r
  go_upto_region 5 with (first
    | (go_at_call 23; (with_reducible refine (isix_W ad cap n _ _ _ (g : Nat) _ true Ig).mono ?_); rintro e w1 ⟨rfl, hb1⟩; have R1 := Lib.hid (R0.out.step hb1); have G1 := four_at R1.out.r; have l1 := heap_lt R1.out.r; clear hb1)
    | (go_at_call 23; (with_reducible refine (isix_W ad cap n _ _ _ (t : Nat) _ true It).mono ?_); rintro e w2 ⟨rfl, hb2⟩; have R2 := Lib.hid (R1.out.step hb2); have G2 := four_at R2.out.r; have l2 := heap_lt R2.out.r; clear hb2)
    | (go_at_call 23; (with_reducible refine (isix_W ad cap n _ _ _ (k : Nat) _ true Ik).mono ?_); rintro e w3 ⟨rfl, hb3⟩; have R3 := Lib.hid (R2.out.step hb3); have G3 := four_at R3.out.r; have l3 := heap_lt R3.out.r; clear hb3)
    | fail)
  have PD := (R3.out.step (Below.refl w3.heap.size w3).drew).all
  clear R0 R1 R2 R3 G0 G1 G2 G3 l0 l1 l2 l3
  refine wp_region_noPanic ?_
  refine wp_region_held_drew (S := fun w' => Br w w' (.slice ad n cap) (g : Nat) (t : Nat) (k : Nat) ∧ w'.cell? ⟨w.heap.size, 0, none⟩ = some (.slice ad n cap) ∧ w'.cell? ⟨w.heap.size, 1, none⟩ = some (.int .i64 (g : Nat)) ∧ w'.cell? ⟨w.heap.size, 2, none⟩ = some (.int .i64 (t : Nat)) ∧ w'.cell? ⟨w.heap.size, 3, none⟩ = some (.int .i64 (k : Nat))) (by kernel_rfl) (PD) (fun hHeld => ?_)
  refine wpAnyH_take (i := 0) (v := ?_) rfl (by kernel_rfl) (by kernel_rfl) (by kernel_rfl) (fun _ _ _ h => h) (Or.inl ⟨by rfl, ?_⟩) (by assumption) ?_
  rotate_left
  · (intro wz hSw; (try dsimp only at hSw); go_simp; try with_reducible rfl)
  try simp only [List.getElem_toArray, List.getElem_cons_zero, Act.put, List.setIfInBounds_toArray, List.set_cons_zero, List.set_cons_succ]
  refine wpAnyH_take (i := 1) (v := ?_) rfl (by kernel_rfl) (by kernel_rfl) (by kernel_rfl) (fun _ _ _ h => h) (Or.inl ⟨by rfl, ?_⟩) (by assumption) ?_
  rotate_left
  · (intro wz hSw; (try dsimp only at hSw); go_simp; try with_reducible rfl)
  try simp only [List.getElem_toArray, List.getElem_cons_zero, List.getElem_cons_succ, Act.put, List.setIfInBounds_toArray, List.set_cons_zero, List.set_cons_succ]
  refine wpAnyH_take (i := 2) (v := ?_) rfl (by kernel_rfl) (by kernel_rfl) (by kernel_rfl) (fun _ _ _ h => h) (Or.inl ⟨by rfl, ?_⟩) (by assumption) ?_
  rotate_left
  · (intro wz hSw; (try dsimp only at hSw); go_simp; try with_reducible rfl)
  try simp only [List.getElem_toArray, List.getElem_cons_zero, List.getElem_cons_succ, Act.put, List.setIfInBounds_toArray, List.set_cons_zero, List.set_cons_succ]
  refine wpAnyH_take (i := 3) (v := ?_) rfl (by kernel_rfl) (by kernel_rfl) (by kernel_rfl) (fun _ _ _ h => h) (Or.inl ⟨by rfl, ?_⟩) (by assumption) ?_
  rotate_left
  · (intro wz hSw; (try dsimp only at hSw); go_simp; try with_reducible rfl)
  try simp only [List.getElem_toArray, List.getElem_cons_zero, List.getElem_cons_succ, Act.put, List.setIfInBounds_toArray, List.set_cons_zero, List.set_cons_succ]
  refine wpAnyH_take (i := 4) (v := ?_) rfl (by kernel_rfl) (by kernel_rfl) (by kernel_rfl) (fun _ _ _ h => h) (Or.inl ⟨by rfl, ?_⟩) (by assumption) ?_
  rotate_left
  · (intro wz hSw; (try dsimp only at hSw); go_simp; try with_reducible rfl)
  try simp only [List.getElem_toArray, List.getElem_cons_zero, List.getElem_cons_succ, Act.put, List.setIfInBounds_toArray, List.set_cons_zero, List.set_cons_succ]
  refine wpAnyH_take (i := 6) (v := ?_) rfl (by kernel_rfl) (by kernel_rfl) (by kernel_rfl) (fun _ _ _ h => h) (Or.inl ⟨by rfl, ?_⟩) (by assumption) ?_
  rotate_left
  · (intro wz hSw; (try dsimp only at hSw); go_simp; try with_reducible rfl)
  try simp only [List.getElem_toArray, List.getElem_cons_zero, List.getElem_cons_succ, Act.put, List.setIfInBounds_toArray, List.set_cons_zero, List.set_cons_succ]
  refine wpAnyH_take (i := 7) (v := ?_) rfl (by kernel_rfl) (by kernel_rfl) (by kernel_rfl) (fun _ _ _ h => h) (Or.inl ⟨by rfl, ?_⟩) (by assumption) ?_
  rotate_left
  · (intro wz hSw; (try dsimp only at hSw); go_simp; try with_reducible rfl)
  try simp only [List.getElem_toArray, List.getElem_cons_zero, List.getElem_cons_succ, Act.put, List.setIfInBounds_toArray, List.set_cons_zero, List.set_cons_succ]
  refine wpAnyH_take (i := 8) (v := ?_) rfl (by kernel_rfl) (by kernel_rfl) (by kernel_rfl) (fun _ _ _ h => h) (Or.inl ⟨by rfl, ?_⟩) (by assumption) ?_
  rotate_left
  · (intro wz hSw; (try dsimp only at hSw); go_simp; try with_reducible rfl)
  try simp only [List.getElem_toArray, List.getElem_cons_zero, List.getElem_cons_succ, Act.put, List.setIfInBounds_toArray, List.set_cons_zero, List.set_cons_succ]
  refine wpAnyH_take (i := 9) (v := ?_) rfl (by kernel_rfl) (by kernel_rfl) (by kernel_rfl) (fun _ _ _ h => h) (Or.inl ⟨by rfl, ?_⟩) (by assumption) ?_
  rotate_left
  · (intro wz hSw; (try dsimp only at hSw); go_simp; try with_reducible rfl)
  try simp only [List.getElem_toArray, List.getElem_cons_zero, List.getElem_cons_succ, Act.put, List.setIfInBounds_toArray, List.set_cons_zero, List.set_cons_succ]
  refine wpAnyH_take (i := 10) (v := ?_) rfl (by kernel_rfl) (by kernel_rfl) (by kernel_rfl) (fun _ _ _ h => h) (Or.inl ⟨by rfl, ?_⟩) (by assumption) ?_
  rotate_left
  · (intro wz hSw; (try dsimp only at hSw); go_simp; try with_reducible rfl)
  try simp only [List.getElem_toArray, List.getElem_cons_zero, List.getElem_cons_succ, Act.put, List.setIfInBounds_toArray, List.set_cons_zero, List.set_cons_succ]
  refine wpAnyH_ready (rs := [5]) (by kernel_rfl) (by simp) ?_
  refine AllReadyH.cons rfl (fun K hK => ?_) AllReadyH.nil
  go_simp
  go_at_call 24
  refine (count_W ad cap n _ _ _ t g _ ht hg hM q HQ).mono ?_
  rintro e w4 ⟨rfl, hb⟩
  go_wp2_with fail
  refine hK.out _ _ ((hHeld.1.step hb).all) (fun hHeld => ?_)
  try simp only [List.getElem_toArray, List.getElem_cons_zero, List.getElem_cons_succ, Act.put, List.setIfInBounds_toArray, List.set_cons_zero, List.set_cons_succ]
  refine wpAnyH_ready (rs := [11]) (by kernel_rfl) (by simp) ?_
  refine AllReadyH.cons rfl (fun K hK => ?_) AllReadyH.nil
  go_simp
  go_at_call 24
  refine (count_W ad cap n _ _ _ t k _ ht hk hM p HP).mono ?_
  rintro e w5 ⟨rfl, hb⟩
  go_wp2_with fail
  refine hK.out _ _ ((hHeld.1.step hb).all) (fun hHeld => ?_)
  try simp only [List.getElem_toArray, List.getElem_cons_zero, List.getElem_cons_succ, Act.put, List.setIfInBounds_toArray, List.set_cons_zero, List.set_cons_succ]
  refine wpAnyH_take (i := 12) (v := ?_) rfl (by kernel_rfl) (by kernel_rfl) (by kernel_rfl) (fun _ _ _ h => h) (Or.inl ⟨by rfl, ?_⟩) (by assumption) ?_
  rotate_left
  · (intro wz hSw; (try dsimp only at hSw); go_simp; try with_reducible rfl)
  try simp only [List.getElem_toArray, List.getElem_cons_zero, List.getElem_cons_succ, Act.put, List.setIfInBounds_toArray, List.set_cons_zero, List.set_cons_succ]
  refine wpAnyH_take (i := 13) (v := ?_) rfl (by kernel_rfl) (by kernel_rfl) (by kernel_rfl) (fun _ _ _ h => h) (Or.inl ⟨by rfl, ?_⟩) (by assumption) ?_
  rotate_left
  · (intro wz hSw; (try dsimp only at hSw); go_simp; try with_reducible rfl)
  try simp only [List.getElem_toArray, List.getElem_cons_zero, List.getElem_cons_succ, Act.put, List.setIfInBounds_toArray, List.set_cons_zero, List.set_cons_succ]
  refine wpAnyH_done (by kernel_rfl) ?_ _
  refine NoPanic.normal ?_
  have R5 := Lib.hid hHeld.1
  have G5 := four_at R5.out.r
  have l5 := heap_lt R5.out.r
  clear hHeld
  have hpq : decide (q < p) = true := decide_eq_true (by omega)
  go_wp2_with fail
  go_ret
  exact ⟨rfl, R5.out.b⟩
set_option maxHeartbeats 4000000 in
set_option maxRecDepth 100000 in
theorem right_loop {ad : Option Addr} {cap n : Nat} {cs : List CeR} (w : World) (H : Hid (shCe.At w ad cap cs)) (hn : Hid (cs.length = n)) (g t k : Nat) (hN : 2 ≤ n) (hM : n ≤ 64) (hg : g < n) (ht : t < n) (hk : k < n) (p q : Nat) (HP : Hid (dsR n t k = p)) (HQ : Hid (dsR n t g = q)) (r : Nat) (HR : Hid (dsR n k g = r)) (hr : p + r = q) (hpq : p ≤ q) (x : Bool) (hx : Hid (rgtR n cs (g : Int) (t : Int) (k : Int) = x)) : Calls Try.prog 13 #[.agg #[.slice ad n cap, .int .i64 (g : Nat), .int .i64 (t : Nat), .int .i64 (k : Nat)]] w fun e w' => e = .returned (.bool x) ∧ Below w.heap.size w w' := by
  have R0 := Lib.hid (br_new w (.slice ad n cap) (g : Nat) (t : Nat) (k : Nat))
  have h1' : decide ((n : Int) < 2) = false := decide_eq_false (by omega)
  have h2' : decide ((n : Int) > 64) = false := decide_eq_false (by omega)
  have Ig : Hid (decide (0 ≤ (g : Int) ∧ (g : Int) < n) = true) := Lib.hid (decide_eq_true ⟨by omega, by omega⟩)
  have It : Hid (decide (0 ≤ (t : Int) ∧ (t : Int) < n) = true) := Lib.hid (decide_eq_true ⟨by omega, by omega⟩)
  have Ik : Hid (decide (0 ≤ (k : Int) ∧ (k : Int) < n) = true) := Lib.hid (decide_eq_true ⟨by omega, by omega⟩)
  go_enter Try.func13, Try.ntmps13
  go_upto_region 1 with fail
  generalize w.alloc (.cells #[.slice ad n cap, .int .i64 (g : Nat), .int .i64 (t : Nat), .int .i64 (k : Nat)] 24) = X at R0 ⊢
  have G0 := four_at R0.out.r
  have l0 := heap_lt R0.out.r
  go_upto_region 5 with (first
    | (go_at_call 23; (with_reducible refine (isix_W ad cap n _ _ _ (g : Nat) _ true Ig).mono ?_); rintro e w1 ⟨rfl, hb1⟩; have R1 := Lib.hid (R0.out.step hb1); have G1 := four_at R1.out.r; have l1 := heap_lt R1.out.r; clear hb1)
    | (go_at_call 23; (with_reducible refine (isix_W ad cap n _ _ _ (t : Nat) _ true It).mono ?_); rintro e w2 ⟨rfl, hb2⟩; have R2 := Lib.hid (R1.out.step hb2); have G2 := four_at R2.out.r; have l2 := heap_lt R2.out.r; clear hb2)
    | (go_at_call 23; (with_reducible refine (isix_W ad cap n _ _ _ (k : Nat) _ true Ik).mono ?_); rintro e w3 ⟨rfl, hb3⟩; have R3 := Lib.hid (R2.out.step hb3); have G3 := four_at R3.out.r; have l3 := heap_lt R3.out.r; clear hb3)
    | fail)
  have PD := (R3.out.step (Below.refl w3.heap.size w3).drew).all
  clear R0 R1 R2 R3 G0 G1 G2 G3 l0 l1 l2 l3
  refine wp_region_noPanic ?_
  refine wp_region_held_drew (S := fun w' => Br w w' (.slice ad n cap) (g : Nat) (t : Nat) (k : Nat) ∧ w'.cell? ⟨w.heap.size, 0, none⟩ = some (.slice ad n cap) ∧ w'.cell? ⟨w.heap.size, 1, none⟩ = some (.int .i64 (g : Nat)) ∧ w'.cell? ⟨w.heap.size, 2, none⟩ = some (.int .i64 (t : Nat)) ∧ w'.cell? ⟨w.heap.size, 3, none⟩ = some (.int .i64 (k : Nat))) (by kernel_rfl) (PD) (fun hHeld => ?_)
  refine wpAnyH_take (i := 0) (v := ?_) rfl (by kernel_rfl) (by kernel_rfl) (by kernel_rfl) (fun _ _ _ h => h) (Or.inl ⟨by rfl, ?_⟩) (by assumption) ?_
  rotate_left
  · (intro wz hSw; (try dsimp only at hSw); go_simp; try with_reducible rfl)
  try simp only [List.getElem_toArray, List.getElem_cons_zero, Act.put, List.setIfInBounds_toArray, List.set_cons_zero, List.set_cons_succ]
  refine wpAnyH_take (i := 1) (v := ?_) rfl (by kernel_rfl) (by kernel_rfl) (by kernel_rfl) (fun _ _ _ h => h) (Or.inl ⟨by rfl, ?_⟩) (by assumption) ?_
  rotate_left
  · (intro wz hSw; (try dsimp only at hSw); go_simp; try with_reducible rfl)
  try simp only [List.getElem_toArray, List.getElem_cons_zero, List.getElem_cons_succ, Act.put, List.setIfInBounds_toArray, List.set_cons_zero, List.set_cons_succ]
  refine wpAnyH_take (i := 2) (v := ?_) rfl (by kernel_rfl) (by kernel_rfl) (by kernel_rfl) (fun _ _ _ h => h) (Or.inl ⟨by rfl, ?_⟩) (by assumption) ?_
  rotate_left
  · (intro wz hSw; (try dsimp only at hSw); go_simp; try with_reducible rfl)
  try simp only [List.getElem_toArray, List.getElem_cons_zero, List.getElem_cons_succ, Act.put, List.setIfInBounds_toArray, List.set_cons_zero, List.set_cons_succ]
  refine wpAnyH_take (i := 3) (v := ?_) rfl (by kernel_rfl) (by kernel_rfl) (by kernel_rfl) (fun _ _ _ h => h) (Or.inl ⟨by rfl, ?_⟩) (by assumption) ?_
  rotate_left
  · (intro wz hSw; (try dsimp only at hSw); go_simp; try with_reducible rfl)
  try simp only [List.getElem_toArray, List.getElem_cons_zero, List.getElem_cons_succ, Act.put, List.setIfInBounds_toArray, List.set_cons_zero, List.set_cons_succ]
  refine wpAnyH_take (i := 4) (v := ?_) rfl (by kernel_rfl) (by kernel_rfl) (by kernel_rfl) (fun _ _ _ h => h) (Or.inl ⟨by rfl, ?_⟩) (by assumption) ?_
  rotate_left
  · (intro wz hSw; (try dsimp only at hSw); go_simp; try with_reducible rfl)
  try simp only [List.getElem_toArray, List.getElem_cons_zero, List.getElem_cons_succ, Act.put, List.setIfInBounds_toArray, List.set_cons_zero, List.set_cons_succ]
  refine wpAnyH_take (i := 6) (v := ?_) rfl (by kernel_rfl) (by kernel_rfl) (by kernel_rfl) (fun _ _ _ h => h) (Or.inl ⟨by rfl, ?_⟩) (by assumption) ?_
  rotate_left
  · (intro wz hSw; (try dsimp only at hSw); go_simp; try with_reducible rfl)
  try simp only [List.getElem_toArray, List.getElem_cons_zero, List.getElem_cons_succ, Act.put, List.setIfInBounds_toArray, List.set_cons_zero, List.set_cons_succ]
  refine wpAnyH_take (i := 7) (v := ?_) rfl (by kernel_rfl) (by kernel_rfl) (by kernel_rfl) (fun _ _ _ h => h) (Or.inl ⟨by rfl, ?_⟩) (by assumption) ?_
  rotate_left
  · (intro wz hSw; (try dsimp only at hSw); go_simp; try with_reducible rfl)
  try simp only [List.getElem_toArray, List.getElem_cons_zero, List.getElem_cons_succ, Act.put, List.setIfInBounds_toArray, List.set_cons_zero, List.set_cons_succ]
  refine wpAnyH_take (i := 8) (v := ?_) rfl (by kernel_rfl) (by kernel_rfl) (by kernel_rfl) (fun _ _ _ h => h) (Or.inl ⟨by rfl, ?_⟩) (by assumption) ?_
  rotate_left
  · (intro wz hSw; (try dsimp only at hSw); go_simp; try with_reducible rfl)
  try simp only [List.getElem_toArray, List.getElem_cons_zero, List.getElem_cons_succ, Act.put, List.setIfInBounds_toArray, List.set_cons_zero, List.set_cons_succ]
  refine wpAnyH_take (i := 9) (v := ?_) rfl (by kernel_rfl) (by kernel_rfl) (by kernel_rfl) (fun _ _ _ h => h) (Or.inl ⟨by rfl, ?_⟩) (by assumption) ?_
  rotate_left
  · (intro wz hSw; (try dsimp only at hSw); go_simp; try with_reducible rfl)
  try simp only [List.getElem_toArray, List.getElem_cons_zero, List.getElem_cons_succ, Act.put, List.setIfInBounds_toArray, List.set_cons_zero, List.set_cons_succ]
  refine wpAnyH_take (i := 10) (v := ?_) rfl (by kernel_rfl) (by kernel_rfl) (by kernel_rfl) (fun _ _ _ h => h) (Or.inl ⟨by rfl, ?_⟩) (by assumption) ?_
  rotate_left
  · (intro wz hSw; (try dsimp only at hSw); go_simp; try with_reducible rfl)
  try simp only [List.getElem_toArray, List.getElem_cons_zero, List.getElem_cons_succ, Act.put, List.setIfInBounds_toArray, List.set_cons_zero, List.set_cons_succ]
  refine wpAnyH_ready (rs := [5]) (by kernel_rfl) (by simp) ?_
  refine AllReadyH.cons rfl (fun K hK => ?_) AllReadyH.nil
  go_simp
  go_at_call 24
  refine (count_W ad cap n _ _ _ t g _ ht hg hM q HQ).mono ?_
  rintro e w4 ⟨rfl, hb⟩
  go_wp2_with fail
  refine hK.out _ _ ((hHeld.1.step hb).all) (fun hHeld => ?_)
  try simp only [List.getElem_toArray, List.getElem_cons_zero, List.getElem_cons_succ, Act.put, List.setIfInBounds_toArray, List.set_cons_zero, List.set_cons_succ]
  refine wpAnyH_ready (rs := [11]) (by kernel_rfl) (by simp) ?_
  refine AllReadyH.cons rfl (fun K hK => ?_) AllReadyH.nil
  go_simp
  go_at_call 24
  refine (count_W ad cap n _ _ _ t k _ ht hk hM p HP).mono ?_
  rintro e w5 ⟨rfl, hb⟩
  go_wp2_with fail
  refine hK.out _ _ ((hHeld.1.step hb).all) (fun hHeld => ?_)
  try simp only [List.getElem_toArray, List.getElem_cons_zero, List.getElem_cons_succ, Act.put, List.setIfInBounds_toArray, List.set_cons_zero, List.set_cons_succ]
  refine wpAnyH_take (i := 12) (v := ?_) rfl (by kernel_rfl) (by kernel_rfl) (by kernel_rfl) (fun _ _ _ h => h) (Or.inl ⟨by rfl, ?_⟩) (by assumption) ?_
  rotate_left
  · (intro wz hSw; (try dsimp only at hSw); go_simp; try with_reducible rfl)
  try simp only [List.getElem_toArray, List.getElem_cons_zero, List.getElem_cons_succ, Act.put, List.setIfInBounds_toArray, List.set_cons_zero, List.set_cons_succ]
  refine wpAnyH_take (i := 13) (v := ?_) rfl (by kernel_rfl) (by kernel_rfl) (by kernel_rfl) (fun _ _ _ h => h) (Or.inl ⟨by rfl, ?_⟩) (by assumption) ?_
  rotate_left
  · (intro wz hSw; (try dsimp only at hSw); go_simp; try with_reducible rfl)
  try simp only [List.getElem_toArray, List.getElem_cons_zero, List.getElem_cons_succ, Act.put, List.setIfInBounds_toArray, List.set_cons_zero, List.set_cons_succ]
  refine wpAnyH_done (by kernel_rfl) ?_ _
  refine NoPanic.normal ?_
  have R5 := Lib.hid hHeld.1
  have G5 := four_at R5.out.r
  have l5 := heap_lt R5.out.r
  clear hHeld
  have hpq' : decide (q < p) = false := decide_eq_false (by omega)
  go_wp2_with fail
  go_loopw [55] (fun i wr => ∃ j : Nat, j ≤ n ∧ i = .int .i64 j ∧ Hid (∀ i, i < j → okC p r (dsR n t i) (cs[i]?.getD (false, 0)) = true) ∧ Hid (Br w wr (.slice ad n cap) (g : Nat) (t : Nat) (k : Nat))) (fun i _ => n - (intOf i).toNat)
  case atStart => exact ⟨0, Nat.zero_le _, rfl, Lib.hid (fun i hi => by omega), R5⟩
  case round =>
    obtain ⟨j, hj, rfl, hall, Rj⟩ := hrel
    have Gj := four_at Rj.out.r
    have lj := heap_lt Rj.out.r
    by_cases hjn : j < n
    · obtain ⟨⟨dv, z⟩, hc⟩ : ∃ c, cs[j]? = some c := ⟨cs[j]'(by rw [hn.out]; exact hjn), List.getElem?_eq_getElem _⟩
      have HC := Lib.hid hc
      obtain ⟨b, off, rfl, hbl, c0, c1⟩ := at_ce (H.out.step Rj.out.b) hc
      dsimp only at c0 c1
      obtain ⟨y, hy⟩ : ∃ y, dsR n t j = y := ⟨_, rfl⟩
      have hyn : y < n := by rw [← hy]; exact ds_lt ht hjn
      have HJ : Hid (wrR n (t + y) = j) := Lib.hid (by rw [← hy]; exact wr_ds ht hjn)
      have HY := Lib.hid hy
      clear hc hy
      by_cases ha : y < p
      · have e1 : decide (p ≤ y) = false := decide_eq_false (by omega)
        have e2 : decide (q ≤ y) = false := decide_eq_false (by omega)
        cases dv with
        | true =>
          obtain rfl : x = false := by
            rw [← hx.out]
            refine rgt_cell (k := y) hyn ?_
            show okC (dsR n t k) (dsR n k g) y (cs[wrR n (t + y)]?.getD (false, 0)) = false
            rw [HP.out, HR.out, HJ.out, HC.out]
            exact by rw [Option.getD_some, okC_work ha]; rfl
          go_wp2_with (first
            | (go_at_call 24; (with_reducible refine (count_W (some ⟨b, off, none⟩) cap n _ _ _ t j _ ht hjn hM y HY).mono ?_); rintro e w6 ⟨rfl, hb6⟩; have R6 := Lib.hid ((Rj.out.step (below_alloc wr _)).step hb6); have G6 := four_at R6.out.r; have l6 := heap_lt R6.out.r; have C6 := Lib.hid (heap_step (heap_alloc_new wr (.cells #[.bool true, .int .i64 z] tC)) hb6); have D6 := pair_at C6.out; have k6 := heap_lt C6.out; clear hb6)
            | fail)
          go_ret
          exact ⟨rfl, R6.out.b⟩
        | false =>
          go_wp2_with (first
            | (go_at_call 24; (with_reducible refine (count_W (some ⟨b, off, none⟩) cap n _ _ _ t j _ ht hjn hM y HY).mono ?_); rintro e w6 ⟨rfl, hb6⟩; have R6 := Lib.hid ((Rj.out.step (below_alloc wr _)).step hb6); have G6 := four_at R6.out.r; have l6 := heap_lt R6.out.r; have C6 := Lib.hid (heap_step (heap_alloc_new wr (.cells #[.bool false, .int .i64 z] tC)) hb6); have D6 := pair_at C6.out; have k6 := heap_lt C6.out; clear hb6)
            | fail)
          go_roundw
          case rel => exact ⟨j + 1, by omega, by go_num, Lib.hid (fun i hi => by
            by_cases e : i = j
            · subst e
              rw [HY.out, HC.out]
              exact by rw [Option.getD_some, okC_work ha]; rfl
            · exact hall.out i (by omega)), R6⟩
          case measure => simp [intOf]; omega
      by_cases hb : y < q
      · have e1 : decide (p ≤ y) = true := decide_eq_true (by omega)
        have e2 : decide (q ≤ y) = false := decide_eq_false (by omega)
        have e3 : decide (y < q) = true := decide_eq_true (by omega)
        cases dv with
        | false =>
          obtain rfl : x = false := by
            rw [← hx.out]
            refine rgt_cell (k := y) hyn ?_
            show okC (dsR n t k) (dsR n k g) y (cs[wrR n (t + y)]?.getD (false, 0)) = false
            rw [HP.out, HR.out, HJ.out, HC.out]
            exact by rw [Option.getD_some, okC_dev ha (by omega)]
          go_wp2_with (first
            | (go_at_call 24; (with_reducible refine (count_W (some ⟨b, off, none⟩) cap n _ _ _ t j _ ht hjn hM y HY).mono ?_); rintro e w6 ⟨rfl, hb6⟩; have R6 := Lib.hid ((Rj.out.step (below_alloc wr _)).step hb6); have G6 := four_at R6.out.r; have l6 := heap_lt R6.out.r; have C6 := Lib.hid (heap_step (heap_alloc_new wr (.cells #[.bool false, .int .i64 z] tC)) hb6); have D6 := pair_at C6.out; have k6 := heap_lt C6.out; clear hb6)
            | fail)
          go_ret
          exact ⟨rfl, R6.out.b⟩
        | true =>
          go_wp2_with (first
            | (go_at_call 24; (with_reducible refine (count_W (some ⟨b, off, none⟩) cap n _ _ _ t j _ ht hjn hM y HY).mono ?_); rintro e w6 ⟨rfl, hb6⟩; have R6 := Lib.hid ((Rj.out.step (below_alloc wr _)).step hb6); have G6 := four_at R6.out.r; have l6 := heap_lt R6.out.r; have C6 := Lib.hid (heap_step (heap_alloc_new wr (.cells #[.bool true, .int .i64 z] tC)) hb6); have D6 := pair_at C6.out; have k6 := heap_lt C6.out; clear hb6)
            | fail)
          go_roundw
          case rel => exact ⟨j + 1, by omega, by go_num, Lib.hid (fun i hi => by
            by_cases e : i = j
            · subst e
              rw [HY.out, HC.out]
              exact by rw [Option.getD_some, okC_dev ha (by omega)]
            · exact hall.out i (by omega)), R6⟩
          case measure => simp [intOf]; omega
      have e1 : decide (p ≤ y) = true := decide_eq_true (by omega)
      have e2 : decide (q ≤ y) = true := decide_eq_true (by omega)
      have e3 : decide (y < q) = false := decide_eq_false (by omega)
      cases dv with
      | true =>
        obtain rfl : x = false := by
          rw [← hx.out]
          refine rgt_cell (k := y) hyn ?_
          show okC (dsR n t k) (dsR n k g) y (cs[wrR n (t + y)]?.getD (false, 0)) = false
          rw [HP.out, HR.out, HJ.out, HC.out]
          exact by rw [Option.getD_some, okC_zero (by omega)]; exact decide_eq_false (fun h => by cases h)
        go_wp2_with (first
          | (go_at_call 24; (with_reducible refine (count_W (some ⟨b, off, none⟩) cap n _ _ _ t j _ ht hjn hM y HY).mono ?_); rintro e w6 ⟨rfl, hb6⟩; have R6 := Lib.hid ((Rj.out.step (below_alloc wr _)).step hb6); have G6 := four_at R6.out.r; have l6 := heap_lt R6.out.r; have C6 := Lib.hid (heap_step (heap_alloc_new wr (.cells #[.bool true, .int .i64 z] tC)) hb6); have D6 := pair_at C6.out; have k6 := heap_lt C6.out; clear hb6)
          | fail)
        go_ret
        exact ⟨rfl, R6.out.b⟩
      | false =>
        by_cases hz : z = 0
        · subst hz
          go_wp2_with (first
            | (go_at_call 24; (with_reducible refine (count_W (some ⟨b, off, none⟩) cap n _ _ _ t j _ ht hjn hM y HY).mono ?_); rintro e w6 ⟨rfl, hb6⟩; have R6 := Lib.hid ((Rj.out.step (below_alloc wr _)).step hb6); have G6 := four_at R6.out.r; have l6 := heap_lt R6.out.r; have C6 := Lib.hid (heap_step (heap_alloc_new wr (.cells #[.bool false, .int .i64 0] tC)) hb6); have D6 := pair_at C6.out; have k6 := heap_lt C6.out; clear hb6)
            | fail)
          go_roundw
          case rel => exact ⟨j + 1, by omega, by go_num, Lib.hid (fun i hi => by
            by_cases e : i = j
            · subst e
              rw [HY.out, HC.out]
              exact by rw [Option.getD_some, okC_zero (by omega)]; rfl
            · exact hall.out i (by omega)), R6⟩
          case measure => simp [intOf]; omega
        · have hz' : (z != 0) = true := by simpa using hz
          obtain rfl : x = false := by
            rw [← hx.out]
            refine rgt_cell (k := y) hyn ?_
            show okC (dsR n t k) (dsR n k g) y (cs[wrR n (t + y)]?.getD (false, 0)) = false
            rw [HP.out, HR.out, HJ.out, HC.out]
            exact by rw [Option.getD_some, okC_zero (by omega)]; exact decide_eq_false (fun h => hz (Prod.mk.inj h).2)
          go_wp2_with (first
            | (go_at_call 24; (with_reducible refine (count_W (some ⟨b, off, none⟩) cap n _ _ _ t j _ ht hjn hM y HY).mono ?_); rintro e w6 ⟨rfl, hb6⟩; have R6 := Lib.hid ((Rj.out.step (below_alloc wr _)).step hb6); have G6 := four_at R6.out.r; have l6 := heap_lt R6.out.r; have C6 := Lib.hid (heap_step (heap_alloc_new wr (.cells #[.bool false, .int .i64 z] tC)) hb6); have D6 := pair_at C6.out; have k6 := heap_lt C6.out; clear hb6)
            | fail)
          go_ret
          exact ⟨rfl, R6.out.b⟩
    · obtain rfl : j = n := by omega
      obtain rfl : x = true := by
        rw [← hx.out]
        refine rgt_true hN hM ⟨by omega, by omega⟩ ⟨by omega, by omega⟩ ⟨by omega, by omega⟩ ?_ (fun i hi => ?_)
        · show dsR j t k ≤ dsR j t g
          rw [HP.out, HQ.out]; exact hpq
        · show okC (dsR j t k) (dsR j k g) i (cs[wrR j (t + i)]?.getD (false, 0)) = true
          rw [HP.out, HR.out]
          have h := hall.out (wrR j (t + i)) (wr_lt' ht hi)
          rw [ds_wr ht hi] at h
          exact h
      go_wp2_with fail
      go_ret
      exact ⟨rfl, Rj.out.b⟩
theorem right_W {ad : Option Addr} {cap n : Nat} {cs : List CeR} (w : World) (H : Hid (shCe.At w ad cap cs)) (hn : Hid (cs.length = n)) (g t k : Int) (x : Bool) (hx : Hid (rgtR n cs g t k = x)) : Calls Try.prog 13 #[.agg #[.slice ad n cap, .int .i64 g, .int .i64 t, .int .i64 k]] w fun e w' => e = .returned (.bool x) ∧ Below w.heap.size w w' := by
  by_cases h : 2 ≤ n ∧ n ≤ 64 ∧ (0 ≤ g ∧ g < n) ∧ (0 ≤ t ∧ t < n) ∧ (0 ≤ k ∧ k < n)
  · obtain ⟨h1, h2, ⟨g0, g1⟩, ⟨t0, t1⟩, ⟨k0, k1⟩⟩ := h
    obtain ⟨g', rfl⟩ : ∃ g' : Nat, g = g' := ⟨g.toNat, by omega⟩
    obtain ⟨t', rfl⟩ : ∃ t' : Nat, t = t' := ⟨t.toNat, by omega⟩
    obtain ⟨k', rfl⟩ : ∃ k' : Nat, k = k' := ⟨k.toNat, by omega⟩
    have hg : g' < n := by omega
    have ht : t' < n := by omega
    have hk : k' < n := by omega
    by_cases ho : dsR n t' g' < dsR n t' k'
    · obtain rfl : x = false := by rw [← hx.out]; exact rgt_order ho
      exact right_order ad cap n w g' t' k' h1 h2 hg ht hk _ _ (Lib.hid rfl) (Lib.hid rfl) ho
    · have hle : dsR n t' k' ≤ dsR n t' g' := by omega
      exact right_loop w H hn g' t' k' h1 h2 hg ht hk _ _ (Lib.hid rfl) (Lib.hid rfl) _ (Lib.hid rfl) (ds_sum ht hk hg hle) hle x hx
  · obtain rfl : x = false := by rw [← hx.out]; exact rgt_num h
    exact right_num ad cap n g t k w h
end Go.Proofs.Ytipkmmajhhcadaa
