/- corebellref.RStep: the walk. -/
import Derived.Test.YtipkmmajhhcadaaRpt
import Derived.Deep.CutBlock
namespace Go.Proofs.Ytipkmmajhhcadaa
open Go.RowKit

/-- What RStep answers. -/
def RStepOut (w : World) (N : Nat) (cs : List CeR) (g t k : Nat) (y x : Int) (e : Ending) (w' : World) : Prop :=
  ∃ ra rc, e = .returned (.tuple #[.agg #[.slice ra N rc, .int .i64 (g : Nat), .int .i64 (t : Nat), .int .i64 (k : Nat)], .int .i64 y, .int .i64 x]) ∧ shCe.At w' ra rc cs ∧ Below w.heap.size w w'
/-- In memory: the boxes, the ring that goes out. -/
structure So (w W : World) (U : Nat) (v : Value) (n : Nat) (ra : Option Addr) (rc : Nat) (cs : List CeR) (g t k kd d g' t' k' : Int) : Prop where
  s : Sp w W v g t k kd d
  u : W.heap[U]? = some (.cells #[.slice ra n rc, .int .i64 g', .int .i64 t', .int .i64 k'] tR (0, 0))
  lu : w.heap.size + 1 + 1 < U
  q : Que shCe W w.heap.size tC (.slice ra n rc) n cs
section
variable {w W Y : World} {U n rc : Nat} {v : Value} {ra : Option Addr} {cs : List CeR} {g t k kd d g' t' k' : Int}
theorem So.step (h : So w W U v n ra rc cs g t k kd d g' t' k') (hb : Below W.heap.size W Y) : So w Y U v n ra rc cs g t k kd d g' t' k' := ⟨h.s.step hb, heap_step h.u hb, h.lu, que_step h.q hb⟩
theorem So.idx (h : So w W U v n ra rc cs g t k kd d g' t' k') (i : Nat) (u : Value) (g2 t2 k2 : Int) (hs : (#[.slice ra n rc, .int .i64 g', .int .i64 t', .int .i64 k'] : Array Value).setIfInBounds i u = #[.slice ra n rc, .int .i64 g2, .int .i64 t2, .int .i64 k2]) : So w (W.setCell ⟨U, i, none⟩ u) U v n ra rc cs g t k kd d g2 t2 k2 := by
  have hl := h.lu
  have o2 : ∀ j, j < U → (W.setCell ⟨U, i, none⟩ u).heap[j]? = W.heap[j]? := fun j hj => Below.heap_setCell _ ⟨U, i, none⟩ _ j (by simp only; omega)
  exact ⟨⟨h.s.b.setCell (by simp only; omega) _, (o2 _ (by omega)).trans h.s.r, (o2 _ (by omega)).trans h.s.o, (o2 _ (by omega)).trans h.s.z⟩, (heap_setCell_same W U i _ _ u h.u).trans (by rw [hs]), h.lu, que_set (a := ⟨U, i, none⟩) h.q (que_ne h.q h.u (by decide)) u⟩
theorem So.put {B off : Nat} (h : So w W U v n (some ⟨B, off, none⟩) rc cs g t k kd d g' t' k') {i : Nat} {a : CeR} (hi : cs[i]? = some a) (c : CeR) : So w ((W.setCell ⟨B, off + i * 2, none⟩ (.bool c.1)).setCell ⟨B, off + i * 2 + 1, none⟩ (.int .i64 c.2)) U v n (some ⟨B, off, none⟩) rc (cs.set i c) g t k kd d g' t' k' := by
  have hw : w.heap.size ≤ B := (que_lt h.q rfl).1
  have o2 : ∀ j (xs : Array Value) (T : TypeId), W.heap[j]? = some (Obj.cells xs T (0, 0)) → ¬ T = tC → ((W.setCell ⟨B, off + i * 2, none⟩ (.bool c.1)).setCell ⟨B, off + i * 2 + 1, none⟩ (.int .i64 c.2)).heap[j]? = W.heap[j]? := fun j xs T hj hT => by
    have hne := (que_ne h.q hj hT B rfl).symm
    exact (Below.heap_setCell _ ⟨B, off + i * 2 + 1, none⟩ _ j hne).trans (Below.heap_setCell _ ⟨B, off + i * 2, none⟩ _ j hne)
  exact ⟨⟨(h.s.b.setCell hw _).setCell hw _, (o2 _ _ _ h.s.r (by decide)).trans h.s.r, (o2 _ _ _ h.s.o (by decide)).trans h.s.o, (o2 _ _ _ h.s.z (by decide)).trans h.s.z⟩, (o2 _ _ _ h.u (by decide)).trans h.u, h.lu, by rw [Nat.add_assoc]; exact que_cell (c := c) h.q hi⟩
theorem So.cells {B off : Nat} (h : So w W U v n (some ⟨B, off, none⟩) rc cs g t k kd d g' t' k') {i : Nat} {a : CeR} (hi : cs[i]? = some a) : W.cell? ⟨B, off + i * 2, none⟩ = some (.bool a.1) ∧ W.cell? ⟨B, off + i * 2 + 1, none⟩ = some (.int .i64 a.2) := by
  obtain ⟨b, f, e, _, h1, h2⟩ := at_ce (que_at h.q) hi
  simp only [Option.some.injEq, Addr.mk.injEq, and_true] at e
  obtain ⟨rfl, rfl⟩ := e
  exact ⟨h1, h2⟩
end
theorem wr_inc {n x q : Nat} (hx : x < n) (hn : n ≤ 64) (hq : wrR n (x + 1) = q) : IntKind.i64.wrap ((x : Int) + 1) = ((x + 1 : Nat) : Int) ∧ ((x + 1 = n ∧ q = 0) ∨ (¬ x + 1 = n ∧ q = x + 1)) := by
  refine ⟨by rw [IntKind.wrap_i64]; omega, ?_⟩
  rw [← hq]
  unfold wrR
  split <;> omega
set_option maxHeartbeats 8000000 in
set_option maxRecDepth 100000 in
theorem rstep_form {ad : Option Addr} {cap n : Nat} {cs : List CeR} (w : World) (H : Hid (shCe.At w ad cap cs)) (hn : Hid (cs.length = n)) (hnb : n ≤ 8796093022208) (g t k kd d : Int) (ok : Bool) (hok : ok = false) (d1 d2 : Nat) (hr : Hid (rgtR n cs g t k = ok)) (hd1 : Hid (ok = true → d1 = dsR n t.toNat k.toNat ∧ d2 = dsR n k.toNat g.toNat)) (hd0 : Hid (ok = false → d1 = 0 ∧ d2 = 0)) : Calls Try.prog 9 #[.agg #[.slice ad n cap, .int .i64 g, .int .i64 t, .int .i64 k], .agg #[.int .i64 kd, .int .i64 d]] w (RStepOut w 0 [] 0 0 0 0 1) := by
  obtain ⟨i0, hi, hz0, hz1, hz2⟩ := info_parts' info_cell
  have hx := Lib.hid (sp_new w (.slice ad n cap) g t k kd d)
  go_enter Try.func9, Try.ntmps9
  go_upto_region 1 with fail
  generalize ((w.alloc (.cells #[.slice ad n cap, .int .i64 g, .int .i64 t, .int .i64 k] 24)).alloc (.cells #[.int .i64 kd, .int .i64 d] 26)).alloc (.cells #[.slice none 0 0, .int .i64 0, .int .i64 0, .int .i64 0] 24) = X at hx ⊢
  have G0 := four_at hx.out.r
  have T0 := pair_at hx.out.o
  have l0 := heap_lt hx.out.r
  have l1 := heap_lt hx.out.o
  have A0 := Lib.hid (H.out.step hx.out.b)
  go_upto_region 2 with (first
    | (go_at_call 10; (with_reducible refine (rparts_W _ A0 hn g t k ok hr d1 d2 hd1 hd0).mono ?_); rintro e w1 ⟨rfl, hb⟩; have S1 := Lib.hid (hx.out.step hb); have G1 := four_at S1.out.r; have k0 := heap_lt S1.out.r; clear hb)
    | fail)
  clear G0 T0 l0 l1 A0 hx
  go_quiet (fail)
  have S2 := Lib.hid (S1.out.step (below_drewN (Below.refl _ _) nq))
  generalize w1.drewN nq = w2 at S2 ⊢
  clear S1 G1 k0
  have GR := four_at S2.out.r
  have lR := heap_lt S2.out.r
  have HZ2 := Lib.hid (heap_lt S2.out.z)
  go_upto_region 4 with fail
  have S3 := Lib.hid (S2.out.step (below_alloc w2 (.cells #[.slice ad n cap, .int .i64 g, .int .i64 t, .int .i64 k] 24)))
  have U3 := Lib.hid (heap_alloc_new w2 (.cells #[.slice ad n cap, .int .i64 g, .int .i64 t, .int .i64 k] 24))
  clear GR lR S2
  generalize w2.alloc (.cells #[.slice ad n cap, .int .i64 g, .int .i64 t, .int .i64 k] 24) = w3 at S3 U3 ⊢
  generalize w2.heap.size = U at U3 HZ2 ⊢
  have S4 := Lib.hid (S3.out.step (below_alloc w3 (.cells #[] 47)))
  have U4 := Lib.hid (heap_step U3.out (below_alloc w3 (.cells #[] 47)))
  have A4 := Lib.hid (H.out.step S4.out.b)
  have O4 := Lib.hid (que_base (base' := w.heap.size) (que_own (S := shCe) (l := []) (World.ownsRow_made (e := 47) (size := 2) w3 #[] 0 (Nat.le_refl _) (by decide) rfl) rfl) S3.out.b.size)
  have h4 := S4.out.b.size
  have GR := four_at S4.out.r
  have lR := heap_lt S4.out.r
  have lU := heap_lt U4.out
  clear S3 U3
  go_upto_block 0 with (first
    | (at_builtin; refine wpList_append_que shCe rfl _ _ 22 rfl w.heap.size 47 i0 _ 16 Try.underlying22 hi hz0 hz1 hz2 rfl (.slice (some ⟨w3.heap.size, 0, none⟩) 0 0) 0 [] cs rfl O4.out ad n cap rfl hn A4.out (by unfold maxLen; omega) (by omega) h4 ?_; intro ra rc w5 own5 grow5 _; simp only [Nat.zero_add, List.nil_append] at own5; have Q5 := Lib.hid own5; have S5 := Lib.hid (S4.out.grown (B := w3.heap.size) grow5 (que_lt O4.out rfl).1 (fun b xs hb e => que_ne O4.out hb (by decide) _ rfl e.symm) (fun b xs hb e => que_ne O4.out hb (by decide) _ rfl e.symm)); have U5 := Lib.hid ((grow5.block _ (heap_lt U4.out) (fun e => que_ne O4.out U4.out (by decide) _ rfl (Option.some.inj e).symm)).trans U4.out); have GU5 := four_at U5.out; have FU5 := (fun i => frozen_of_row w5 U i _ _ U5.out); have lU5 := heap_lt U5.out; clear own5 grow5)
    | fail)
  have P5 : Hid (So w (w5.setCell ⟨U, 0, none⟩ (.slice ra n rc)) U (.slice ad n cap) n ra rc cs g t k kd d g t k) := Lib.hid (by
    have hU : w.heap.size + 1 + 1 < U := HZ2.out
    have o2 : ∀ j, j < U → (w5.setCell ⟨U, 0, none⟩ (.slice ra n rc)).heap[j]? = w5.heap[j]? := fun j hj => Below.heap_setCell _ ⟨U, 0, none⟩ _ j (by simp only; omega)
    exact ⟨⟨S5.out.b.setCell (by simp only; omega) _, (o2 _ (by omega)).trans S5.out.r, (o2 _ (by omega)).trans S5.out.o, (o2 _ (by omega)).trans S5.out.z⟩, heap_setCell_same w5 U 0 _ _ _ U5.out, hU, que_set (a := ⟨U, 0, none⟩) Q5.out (que_ne Q5.out U5.out (by decide)) _⟩)
  clear GU5 FU5 lU5 S5 U5 Q5 S4 U4 A4 O4 h4 GR lR lU HZ2
  generalize w5.setCell ⟨U, 0, none⟩ (.slice ra n rc) = w6 at P5 ⊢
  have GR := four_at P5.out.s.r
  have GO := pair_at P5.out.s.o
  have GZ := four_at P5.out.s.z
  have GU := four_at P5.out.u
  have FU := fun i => frozen_of_row w6 U i _ _ P5.out.u
  have FZ := fun i => frozen_of_row w6 (w.heap.size + 1 + 1) i _ _ P5.out.s.z
  have lR := heap_lt P5.out.s.r
  have lO := heap_lt P5.out.s.o
  have lZ := heap_lt P5.out.s.z
  have lU := heap_lt P5.out.u
  subst hok
  go_wp2_with fail
  refine bodyPost_ret (results_row_tmp2 rfl _ _ (w.heap.size + 1 + 1) 24 #[.slice none 0 0, .int .i64 0, .int .i64 0, .int .i64 0] (0, 0) _ rfl (four_set P5.out.s.z) Try.underlying24 rfl size_ring) rfl ?_
  exact ⟨none, 0, rfl, Shape.At.nil _, four_below _ _ _ _ P5.out.s.b (by omega)⟩
set_option maxHeartbeats 8000000 in
set_option maxRecDepth 100000 in
theorem rstep_err {ad : Option Addr} {cap n : Nat} {cs : List CeR} (w : World) (H : Hid (shCe.At w ad cap cs)) (hn : Hid (cs.length = n)) (hnb : n ≤ 8796093022208) (g t k : Nat) (kd d : Int) (hM : n ≤ 64) (p q r : Nat) (HP : Hid (dsR n t k = p)) (HR : Hid (dsR n k g = r)) (hqr : q = p + r) (hqn : q < n) (m : Nat) (hm : m + 1 = n) (ok : Bool) (hok : ok = true) (d1 d2 : Nat) (hr : Hid (rgtR n cs (g : Int) (t : Int) (k : Int) = ok)) (hd1 : Hid (ok = true → d1 = dsR n ((t : Int)).toNat ((k : Int)).toNat ∧ d2 = dsR n ((k : Int)).toNat ((g : Int)).toNat)) (hd0 : Hid (ok = false → d1 = 0 ∧ d2 = 0)) (hd1p : d1 = p) (hd2r : d2 = r) (x : Int) (hx' : (kd < 1 ∨ 3 < kd) ∧ x = 5 ∨ kd = 1 ∧ q = m ∧ x = 7 ∨ kd = 2 ∧ r = 0 ∧ x = 3 ∨ kd = 3 ∧ p = 0 ∧ x = 3) : Calls Try.prog 9 #[.agg #[.slice ad n cap, .int .i64 (g : Nat), .int .i64 (t : Nat), .int .i64 (k : Nat)], .agg #[.int .i64 kd, .int .i64 d]] w (RStepOut w 0 [] 0 0 0 0 x) := by
  have HPQ : Hid (p + r = q) := Lib.hid hqr.symm
  have hq64 : q < 64 := by omega
  have xs : IntKind.i64.wrap ((p : Int) + (r : Int)) = (q : Int) := by rw [IntKind.wrap_i64]; omega
  have xm : IntKind.i64.wrap ((n : Int) - 1) = (m : Int) := by rw [IntKind.wrap_i64]; omega
  clear hqr hm
  subst hd1p hd2r
  obtain ⟨i0, hi, hz0, hz1, hz2⟩ := info_parts' info_cell
  have hx := Lib.hid (sp_new w (.slice ad n cap) (g : Int) (t : Int) (k : Int) kd d)
  go_enter Try.func9, Try.ntmps9
  go_upto_region 1 with fail
  generalize ((w.alloc (.cells #[.slice ad n cap, .int .i64 (g : Nat), .int .i64 (t : Nat), .int .i64 (k : Nat)] 24)).alloc (.cells #[.int .i64 kd, .int .i64 d] 26)).alloc (.cells #[.slice none 0 0, .int .i64 0, .int .i64 0, .int .i64 0] 24) = X at hx ⊢
  have G0 := four_at hx.out.r
  have T0 := pair_at hx.out.o
  have l0 := heap_lt hx.out.r
  have l1 := heap_lt hx.out.o
  have A0 := Lib.hid (H.out.step hx.out.b)
  go_upto_region 2 with (first
    | (go_at_call 10; (with_reducible refine (rparts_W _ A0 hn (g : Int) (t : Int) (k : Int) ok hr d1 d2 hd1 hd0).mono ?_); rintro e w1 ⟨rfl, hb⟩; have S1 := Lib.hid (hx.out.step hb); have G1 := four_at S1.out.r; have k0 := heap_lt S1.out.r; clear hb)
    | fail)
  clear G0 T0 l0 l1 A0 hx
  go_quiet (fail)
  have S2 := Lib.hid (S1.out.step (below_drewN (Below.refl _ _) nq))
  generalize w1.drewN nq = w2 at S2 ⊢
  clear S1 G1 k0
  have GR := four_at S2.out.r
  have lR := heap_lt S2.out.r
  have HZ2 := Lib.hid (heap_lt S2.out.z)
  go_upto_region 4 with fail
  have S3 := Lib.hid (S2.out.step (below_alloc w2 (.cells #[.slice ad n cap, .int .i64 (g : Nat), .int .i64 (t : Nat), .int .i64 (k : Nat)] 24)))
  have U3 := Lib.hid (heap_alloc_new w2 (.cells #[.slice ad n cap, .int .i64 (g : Nat), .int .i64 (t : Nat), .int .i64 (k : Nat)] 24))
  clear GR lR S2
  generalize w2.alloc (.cells #[.slice ad n cap, .int .i64 (g : Nat), .int .i64 (t : Nat), .int .i64 (k : Nat)] 24) = w3 at S3 U3 ⊢
  generalize w2.heap.size = U at U3 HZ2 ⊢
  have S4 := Lib.hid (S3.out.step (below_alloc w3 (.cells #[] 47)))
  have U4 := Lib.hid (heap_step U3.out (below_alloc w3 (.cells #[] 47)))
  have A4 := Lib.hid (H.out.step S4.out.b)
  have O4 := Lib.hid (que_base (base' := w.heap.size) (que_own (S := shCe) (l := []) (World.ownsRow_made (e := 47) (size := 2) w3 #[] 0 (Nat.le_refl _) (by decide) rfl) rfl) S3.out.b.size)
  have h4 := S4.out.b.size
  have GR := four_at S4.out.r
  have lR := heap_lt S4.out.r
  have lU := heap_lt U4.out
  clear S3 U3
  go_upto_block 0 with (first
    | (at_builtin; refine wpList_append_que shCe rfl _ _ 22 rfl w.heap.size 47 i0 _ 16 Try.underlying22 hi hz0 hz1 hz2 rfl (.slice (some ⟨w3.heap.size, 0, none⟩) 0 0) 0 [] cs rfl O4.out ad n cap rfl hn A4.out (by unfold maxLen; omega) (by omega) h4 ?_; intro ra rc w5 own5 grow5 _; simp only [Nat.zero_add, List.nil_append] at own5; have Q5 := Lib.hid own5; have S5 := Lib.hid (S4.out.grown (B := w3.heap.size) grow5 (que_lt O4.out rfl).1 (fun b xs hb e => que_ne O4.out hb (by decide) _ rfl e.symm) (fun b xs hb e => que_ne O4.out hb (by decide) _ rfl e.symm)); have U5 := Lib.hid ((grow5.block _ (heap_lt U4.out) (fun e => que_ne O4.out U4.out (by decide) _ rfl (Option.some.inj e).symm)).trans U4.out); have GU5 := four_at U5.out; have FU5 := (fun i => frozen_of_row w5 U i _ _ U5.out); have lU5 := heap_lt U5.out; clear own5 grow5)
    | fail)
  have P5 : Hid (So w (w5.setCell ⟨U, 0, none⟩ (.slice ra n rc)) U (.slice ad n cap) n ra rc cs (g : Int) (t : Int) (k : Int) kd d (g : Int) (t : Int) (k : Int)) := Lib.hid (by
    have hU : w.heap.size + 1 + 1 < U := HZ2.out
    have o2 : ∀ j, j < U → (w5.setCell ⟨U, 0, none⟩ (.slice ra n rc)).heap[j]? = w5.heap[j]? := fun j hj => Below.heap_setCell _ ⟨U, 0, none⟩ _ j (by simp only; omega)
    exact ⟨⟨S5.out.b.setCell (by simp only; omega) _, (o2 _ (by omega)).trans S5.out.r, (o2 _ (by omega)).trans S5.out.o, (o2 _ (by omega)).trans S5.out.z⟩, heap_setCell_same w5 U 0 _ _ _ U5.out, hU, que_set (a := ⟨U, 0, none⟩) Q5.out (que_ne Q5.out U5.out (by decide)) _⟩)
  clear GU5 FU5 lU5 S5 U5 Q5 S4 U4 A4 O4 h4 GR lR lU HZ2
  generalize w5.setCell ⟨U, 0, none⟩ (.slice ra n rc) = w6 at P5 ⊢
  have GR := four_at P5.out.s.r
  have GO := pair_at P5.out.s.o
  have GZ := four_at P5.out.s.z
  have GU := four_at P5.out.u
  have FU := fun i => frozen_of_row w6 U i _ _ P5.out.u
  have FZ := fun i => frozen_of_row w6 (w.heap.size + 1 + 1) i _ _ P5.out.s.z
  have lR := heap_lt P5.out.s.r
  have lO := heap_lt P5.out.s.o
  have lZ := heap_lt P5.out.s.z
  have lU := heap_lt P5.out.u
  subst hok
  rcases hx' with ⟨hkd, rfl⟩ | ⟨rfl, hqm, rfl⟩ | ⟨rfl, hr0, rfl⟩ | ⟨rfl, hp0, rfl⟩
  · by_cases h1 : kd < 1
    · have h1d : decide (kd < 1) = true := decide_eq_true h1
      clear hkd h1
      go_wp2_with fail
      refine bodyPost_ret (results_row_tmp2 rfl _ _ (w.heap.size + 1 + 1) 24 #[.slice none 0 0, .int .i64 0, .int .i64 0, .int .i64 0] (0, 0) _ rfl (four_set P5.out.s.z) Try.underlying24 rfl size_ring) rfl ?_
      exact ⟨none, 0, rfl, Shape.At.nil _, four_below _ _ _ _ P5.out.s.b (by omega)⟩
    · have h1d : decide (kd < 1) = false := decide_eq_false h1
      have h2d : decide (kd > 3) = true := decide_eq_true (by omega)
      clear hkd h1
      go_wp2_with fail
      refine bodyPost_ret (results_row_tmp2 rfl _ _ (w.heap.size + 1 + 1) 24 #[.slice none 0 0, .int .i64 0, .int .i64 0, .int .i64 0] (0, 0) _ rfl (four_set P5.out.s.z) Try.underlying24 rfl size_ring) rfl ?_
      exact ⟨none, 0, rfl, Shape.At.nil _, four_below _ _ _ _ P5.out.s.b (by omega)⟩
  · have hqd : ((q : Int) == (m : Int)) = true := nat_eq true (decide_eq_true hqm)
    clear hqm
    go_wp2_with fail
    refine bodyPost_ret (results_row_tmp2 rfl _ _ (w.heap.size + 1 + 1) 24 #[.slice none 0 0, .int .i64 0, .int .i64 0, .int .i64 0] (0, 0) _ rfl (four_set P5.out.s.z) Try.underlying24 rfl size_ring) rfl ?_
    exact ⟨none, 0, rfl, Shape.At.nil _, four_below _ _ _ _ P5.out.s.b (by omega)⟩
  · have hrd : ((d2 : Int) == 0) = true := by rw [hr0]; rfl
    clear hr0
    go_wp2_with fail
    refine bodyPost_ret (results_row_tmp2 rfl _ _ (w.heap.size + 1 + 1) 24 #[.slice none 0 0, .int .i64 0, .int .i64 0, .int .i64 0] (0, 0) _ rfl (four_set P5.out.s.z) Try.underlying24 rfl size_ring) rfl ?_
    exact ⟨none, 0, rfl, Shape.At.nil _, four_below _ _ _ _ P5.out.s.b (by omega)⟩
  · have hpd : ((d1 : Int) == 0) = true := by rw [hp0]; rfl
    clear hp0
    go_wp2_with fail
    refine bodyPost_ret (results_row_tmp2 rfl _ _ (w.heap.size + 1 + 1) 24 #[.slice none 0 0, .int .i64 0, .int .i64 0, .int .i64 0] (0, 0) _ rfl (four_set P5.out.s.z) Try.underlying24 rfl size_ring) rfl ?_
    exact ⟨none, 0, rfl, Shape.At.nil _, four_below _ _ _ _ P5.out.s.b (by omega)⟩
set_option maxHeartbeats 8000000 in
set_option maxRecDepth 100000 in
theorem rstep_give {ad : Option Addr} {cap n : Nat} {cs : List CeR} (w : World) (H : Hid (shCe.At w ad cap cs)) (hn : Hid (cs.length = n)) (hnb : n ≤ 8796093022208) (g t k : Nat) (d : Int) (hM : n ≤ 64) (hg : g < n) (hk : k < n) (p q r : Nat) (HP : Hid (dsR n t k = p)) (HR : Hid (dsR n k g = r)) (hqr : q = p + r) (hqn : q < n) (m : Nat) (hm : m + 1 = n) (ok : Bool) (hok : ok = true) (d1 d2 : Nat) (hr : Hid (rgtR n cs (g : Int) (t : Int) (k : Int) = ok)) (hd1 : Hid (ok = true → d1 = dsR n ((t : Int)).toNat ((k : Int)).toNat ∧ d2 = dsR n ((k : Int)).toNat ((g : Int)).toNat)) (hd0 : Hid (ok = false → d1 = 0 ∧ d2 = 0)) (hd1p : d1 = p) (hd2r : d2 = r) (hc : ¬ q = m) (a : CeR) (ha : Hid (cs[g]? = some a)) (v : Nat) (hv : wrR n (g + 1) = v) : Calls Try.prog 9 #[.agg #[.slice ad n cap, .int .i64 (g : Nat), .int .i64 (t : Nat), .int .i64 (k : Nat)], .agg #[.int .i64 1, .int .i64 d]] w (RStepOut w n (cs.set g (true, d)) v t k 0 0) := by
  have HPQ : Hid (p + r = q) := Lib.hid hqr.symm
  have hq64 : q < 64 := by omega
  have xs : IntKind.i64.wrap ((p : Int) + (r : Int)) = (q : Int) := by rw [IntKind.wrap_i64]; omega
  have xm : IntKind.i64.wrap ((n : Int) - 1) = (m : Int) := by rw [IntKind.wrap_i64]; omega
  clear hqr hm
  subst hd1p hd2r
  obtain ⟨i0, hi, hz0, hz1, hz2⟩ := info_parts' info_cell
  have hx := Lib.hid (sp_new w (.slice ad n cap) (g : Int) (t : Int) (k : Int) 1 d)
  go_enter Try.func9, Try.ntmps9
  go_upto_region 1 with fail
  generalize ((w.alloc (.cells #[.slice ad n cap, .int .i64 (g : Nat), .int .i64 (t : Nat), .int .i64 (k : Nat)] 24)).alloc (.cells #[.int .i64 1, .int .i64 d] 26)).alloc (.cells #[.slice none 0 0, .int .i64 0, .int .i64 0, .int .i64 0] 24) = X at hx ⊢
  have G0 := four_at hx.out.r
  have T0 := pair_at hx.out.o
  have l0 := heap_lt hx.out.r
  have l1 := heap_lt hx.out.o
  have A0 := Lib.hid (H.out.step hx.out.b)
  go_upto_region 2 with (first
    | (go_at_call 10; (with_reducible refine (rparts_W _ A0 hn (g : Int) (t : Int) (k : Int) ok hr d1 d2 hd1 hd0).mono ?_); rintro e w1 ⟨rfl, hb⟩; have S1 := Lib.hid (hx.out.step hb); have G1 := four_at S1.out.r; have k0 := heap_lt S1.out.r; clear hb)
    | fail)
  clear G0 T0 l0 l1 A0 hx
  go_quiet (fail)
  have S2 := Lib.hid (S1.out.step (below_drewN (Below.refl _ _) nq))
  generalize w1.drewN nq = w2 at S2 ⊢
  clear S1 G1 k0
  have GR := four_at S2.out.r
  have lR := heap_lt S2.out.r
  have HZ2 := Lib.hid (heap_lt S2.out.z)
  go_upto_region 4 with fail
  have S3 := Lib.hid (S2.out.step (below_alloc w2 (.cells #[.slice ad n cap, .int .i64 (g : Nat), .int .i64 (t : Nat), .int .i64 (k : Nat)] 24)))
  have U3 := Lib.hid (heap_alloc_new w2 (.cells #[.slice ad n cap, .int .i64 (g : Nat), .int .i64 (t : Nat), .int .i64 (k : Nat)] 24))
  clear GR lR S2
  generalize w2.alloc (.cells #[.slice ad n cap, .int .i64 (g : Nat), .int .i64 (t : Nat), .int .i64 (k : Nat)] 24) = w3 at S3 U3 ⊢
  generalize w2.heap.size = U at U3 HZ2 ⊢
  have S4 := Lib.hid (S3.out.step (below_alloc w3 (.cells #[] 47)))
  have U4 := Lib.hid (heap_step U3.out (below_alloc w3 (.cells #[] 47)))
  have A4 := Lib.hid (H.out.step S4.out.b)
  have O4 := Lib.hid (que_base (base' := w.heap.size) (que_own (S := shCe) (l := []) (World.ownsRow_made (e := 47) (size := 2) w3 #[] 0 (Nat.le_refl _) (by decide) rfl) rfl) S3.out.b.size)
  have h4 := S4.out.b.size
  have GR := four_at S4.out.r
  have lR := heap_lt S4.out.r
  have lU := heap_lt U4.out
  clear S3 U3
  go_upto_block 0 with (first
    | (at_builtin; refine wpList_append_que shCe rfl _ _ 22 rfl w.heap.size 47 i0 _ 16 Try.underlying22 hi hz0 hz1 hz2 rfl (.slice (some ⟨w3.heap.size, 0, none⟩) 0 0) 0 [] cs rfl O4.out ad n cap rfl hn A4.out (by unfold maxLen; omega) (by omega) h4 ?_; intro ra rc w5 own5 grow5 _; simp only [Nat.zero_add, List.nil_append] at own5; have Q5 := Lib.hid own5; have S5 := Lib.hid (S4.out.grown (B := w3.heap.size) grow5 (que_lt O4.out rfl).1 (fun b xs hb e => que_ne O4.out hb (by decide) _ rfl e.symm) (fun b xs hb e => que_ne O4.out hb (by decide) _ rfl e.symm)); have U5 := Lib.hid ((grow5.block _ (heap_lt U4.out) (fun e => que_ne O4.out U4.out (by decide) _ rfl (Option.some.inj e).symm)).trans U4.out); have GU5 := four_at U5.out; have FU5 := (fun i => frozen_of_row w5 U i _ _ U5.out); have lU5 := heap_lt U5.out; clear own5 grow5)
    | fail)
  have P5 : Hid (So w (w5.setCell ⟨U, 0, none⟩ (.slice ra n rc)) U (.slice ad n cap) n ra rc cs (g : Int) (t : Int) (k : Int) 1 d (g : Int) (t : Int) (k : Int)) := Lib.hid (by
    have hU : w.heap.size + 1 + 1 < U := HZ2.out
    have o2 : ∀ j, j < U → (w5.setCell ⟨U, 0, none⟩ (.slice ra n rc)).heap[j]? = w5.heap[j]? := fun j hj => Below.heap_setCell _ ⟨U, 0, none⟩ _ j (by simp only; omega)
    exact ⟨⟨S5.out.b.setCell (by simp only; omega) _, (o2 _ (by omega)).trans S5.out.r, (o2 _ (by omega)).trans S5.out.o, (o2 _ (by omega)).trans S5.out.z⟩, heap_setCell_same w5 U 0 _ _ _ U5.out, hU, que_set (a := ⟨U, 0, none⟩) Q5.out (que_ne Q5.out U5.out (by decide)) _⟩)
  clear GU5 FU5 lU5 S5 U5 Q5 S4 U4 A4 O4 h4 GR lR lU HZ2
  generalize w5.setCell ⟨U, 0, none⟩ (.slice ra n rc) = w6 at P5 ⊢
  have GR := four_at P5.out.s.r
  have GO := pair_at P5.out.s.o
  have GZ := four_at P5.out.s.z
  have GU := four_at P5.out.u
  have FU := fun i => frozen_of_row w6 U i _ _ P5.out.u
  have FZ := fun i => frozen_of_row w6 (w.heap.size + 1 + 1) i _ _ P5.out.s.z
  have lR := heap_lt P5.out.s.r
  have lO := heap_lt P5.out.s.o
  have lZ := heap_lt P5.out.s.z
  have lU := heap_lt P5.out.u
  subst hok
  have hn0 : 0 < n := by omega
  obtain ⟨B, off, rfl, hB⟩ := que_some P5.out.q hn0
  have C5 := P5.out.cells ha.out
  have FB := fun i => que_froz P5.out.q i
  have lB : B < w6.heap.size := (que_lt P5.out.q rfl).2
  obtain ⟨w1', hvv⟩ := wr_inc hg hM hv
  have HVV := Lib.hid hvv
  obtain ⟨sv, hsv⟩ : ∃ sv, g + 1 = sv := ⟨_, rfl⟩
  have HSV := Lib.hid hsv
  rw [hsv] at w1'
  obtain ⟨av, az⟩ := a
  dsimp only at C5
  clear hvv hsv hv
  have hcd : ((q : Int) == (m : Int)) = false := nat_eq false (decide_eq_false hc)
  clear hc
  go_upto_region 20 with fail
  have P6 := Lib.hid (P5.out.put (c := (true, d)) ha.out)
  dsimp only at P6
  generalize (w6.setCell ⟨B, off + g * 2, none⟩ (.bool true)).setCell ⟨B, off + g * 2 + 1, none⟩ (.int .i64 d) = w7 at P6 ⊢
  clear GR GO GZ GU FU FZ lR lO lZ lU
  clear C5 FB lB P5
  have GR := four_at P6.out.s.r
  have GO := pair_at P6.out.s.o
  have GZ := four_at P6.out.s.z
  have GU := four_at P6.out.u
  have FU := fun i => frozen_of_row w7 U i _ _ P6.out.u
  have FZ := fun i => frozen_of_row w7 (w.heap.size + 1 + 1) i _ _ P6.out.s.z
  have lR := heap_lt P6.out.s.r
  have lO := heap_lt P6.out.s.o
  have lZ := heap_lt P6.out.s.z
  have lU := heap_lt P6.out.u
  go_upto_region 21 with fail
  have P7 := Lib.hid (P6.out.idx 1 (.int .i64 (sv : Nat)) (sv : Int) (t : Int) (k : Int) rfl)
  generalize w7.setCell ⟨U, 1, none⟩ (.int .i64 (sv : Nat)) = w8 at P7 ⊢
  clear GR GO GZ GU FU FZ lR lO lZ lU
  clear P6
  have GR := four_at P7.out.s.r
  have GO := pair_at P7.out.s.o
  have GZ := four_at P7.out.s.z
  have GU := four_at P7.out.u
  have FU := fun i => frozen_of_row w8 U i _ _ P7.out.u
  have FZ := fun i => frozen_of_row w8 (w.heap.size + 1 + 1) i _ _ P7.out.s.z
  have lR := heap_lt P7.out.s.r
  have lO := heap_lt P7.out.s.o
  have lZ := heap_lt P7.out.s.z
  have lU := heap_lt P7.out.u
  rcases HVV.out with ⟨e1, e2⟩ | ⟨e1, e2⟩
  · have hse : ((sv : Int) == (n : Int)) = true := nat_eq true (decide_eq_true (HSV.out.symm.trans e1))
    subst e2
    clear e1
    go_upto_region 28 with fail
    have P8 := Lib.hid (P7.out.idx 1 (.int .i64 ((0 : Nat) : Int)) ((0 : Nat) : Int) (t : Int) (k : Int) rfl)
    rw [show ((0 : Nat) : Int) = 0 from rfl] at P8
    generalize w8.setCell ⟨U, 1, none⟩ (.int .i64 0) = w9 at P8 ⊢
    clear GR GO GZ GU FU FZ lR lO lZ lU
    clear P7
    have GR := four_at P8.out.s.r
    have GO := pair_at P8.out.s.o
    have GZ := four_at P8.out.s.z
    have GU := four_at P8.out.u
    have FU := fun i => frozen_of_row w9 U i _ _ P8.out.u
    have FZ := fun i => frozen_of_row w9 (w.heap.size + 1 + 1) i _ _ P8.out.s.z
    have lR := heap_lt P8.out.s.r
    have lO := heap_lt P8.out.s.o
    have lZ := heap_lt P8.out.s.z
    have lU := heap_lt P8.out.u
    go_wp2_with fail
    refine bodyPost_ret (results_row_tmp2 rfl _ _ (w.heap.size + 1 + 1) 24 #[.slice (some ⟨B, off, none⟩) n rc, .int .i64 0, .int .i64 (t : Nat), .int .i64 (k : Nat)] (0, 0) _ rfl (four_set P8.out.s.z) Try.underlying24 rfl size_ring) rfl ?_
    exact ⟨_, _, rfl, que_at (que_four P8.out.q (que_ne P8.out.q P8.out.s.z (by decide)) _ _ _ _), four_below _ _ _ _ P8.out.s.b (by omega)⟩
  · have hse : ((sv : Int) == (n : Int)) = false := nat_eq false (decide_eq_false (fun e => e1 (HSV.out.trans e)))
    obtain rfl : v = sv := e2.trans HSV.out
    clear e1 e2
    go_wp2_with fail
    refine bodyPost_ret (results_row_tmp2 rfl _ _ (w.heap.size + 1 + 1) 24 #[.slice (some ⟨B, off, none⟩) n rc, .int .i64 (v : Nat), .int .i64 (t : Nat), .int .i64 (k : Nat)] (0, 0) _ rfl (four_set P7.out.s.z) Try.underlying24 rfl size_ring) rfl ?_
    exact ⟨_, _, rfl, que_at (que_four P7.out.q (que_ne P7.out.q P7.out.s.z (by decide)) _ _ _ _), four_below _ _ _ _ P7.out.s.b (by omega)⟩
set_option maxHeartbeats 8000000 in
set_option maxRecDepth 100000 in
theorem rstep_work {ad : Option Addr} {cap n : Nat} {cs : List CeR} (w : World) (H : Hid (shCe.At w ad cap cs)) (hn : Hid (cs.length = n)) (hnb : n ≤ 8796093022208) (g t k : Nat) (d : Int) (hM : n ≤ 64) (hk : k < n) (p q r : Nat) (HP : Hid (dsR n t k = p)) (HR : Hid (dsR n k g = r)) (hqr : q = p + r) (hqn : q < n) (m : Nat) (hm : m + 1 = n) (ok : Bool) (hok : ok = true) (d1 d2 : Nat) (hr : Hid (rgtR n cs (g : Int) (t : Int) (k : Int) = ok)) (hd1 : Hid (ok = true → d1 = dsR n ((t : Int)).toNat ((k : Int)).toNat ∧ d2 = dsR n ((k : Int)).toNat ((g : Int)).toNat)) (hd0 : Hid (ok = false → d1 = 0 ∧ d2 = 0)) (hd1p : d1 = p) (hd2r : d2 = r) (hc : ¬ r = 0) (a : CeR) (ha : Hid (cs[k]? = some a)) (v : Nat) (hv : wrR n (k + 1) = v) (iv : Int) (HIV : Hid (IntKind.i64.wrap (-1 - a.2) = iv)) : Calls Try.prog 9 #[.agg #[.slice ad n cap, .int .i64 (g : Nat), .int .i64 (t : Nat), .int .i64 (k : Nat)], .agg #[.int .i64 2, .int .i64 d]] w (RStepOut w n (cs.set k (false, iv)) g t v 0 0) := by
  have HPQ : Hid (p + r = q) := Lib.hid hqr.symm
  have hq64 : q < 64 := by omega
  have xs : IntKind.i64.wrap ((p : Int) + (r : Int)) = (q : Int) := by rw [IntKind.wrap_i64]; omega
  have xm : IntKind.i64.wrap ((n : Int) - 1) = (m : Int) := by rw [IntKind.wrap_i64]; omega
  clear hqr hm
  subst hd1p hd2r
  obtain ⟨i0, hi, hz0, hz1, hz2⟩ := info_parts' info_cell
  have hx := Lib.hid (sp_new w (.slice ad n cap) (g : Int) (t : Int) (k : Int) 2 d)
  go_enter Try.func9, Try.ntmps9
  go_upto_region 1 with fail
  generalize ((w.alloc (.cells #[.slice ad n cap, .int .i64 (g : Nat), .int .i64 (t : Nat), .int .i64 (k : Nat)] 24)).alloc (.cells #[.int .i64 2, .int .i64 d] 26)).alloc (.cells #[.slice none 0 0, .int .i64 0, .int .i64 0, .int .i64 0] 24) = X at hx ⊢
  have G0 := four_at hx.out.r
  have T0 := pair_at hx.out.o
  have l0 := heap_lt hx.out.r
  have l1 := heap_lt hx.out.o
  have A0 := Lib.hid (H.out.step hx.out.b)
  go_upto_region 2 with (first
    | (go_at_call 10; (with_reducible refine (rparts_W _ A0 hn (g : Int) (t : Int) (k : Int) ok hr d1 d2 hd1 hd0).mono ?_); rintro e w1 ⟨rfl, hb⟩; have S1 := Lib.hid (hx.out.step hb); have G1 := four_at S1.out.r; have k0 := heap_lt S1.out.r; clear hb)
    | fail)
  clear G0 T0 l0 l1 A0 hx
  go_quiet (fail)
  have S2 := Lib.hid (S1.out.step (below_drewN (Below.refl _ _) nq))
  generalize w1.drewN nq = w2 at S2 ⊢
  clear S1 G1 k0
  have GR := four_at S2.out.r
  have lR := heap_lt S2.out.r
  have HZ2 := Lib.hid (heap_lt S2.out.z)
  go_upto_region 4 with fail
  have S3 := Lib.hid (S2.out.step (below_alloc w2 (.cells #[.slice ad n cap, .int .i64 (g : Nat), .int .i64 (t : Nat), .int .i64 (k : Nat)] 24)))
  have U3 := Lib.hid (heap_alloc_new w2 (.cells #[.slice ad n cap, .int .i64 (g : Nat), .int .i64 (t : Nat), .int .i64 (k : Nat)] 24))
  clear GR lR S2
  generalize w2.alloc (.cells #[.slice ad n cap, .int .i64 (g : Nat), .int .i64 (t : Nat), .int .i64 (k : Nat)] 24) = w3 at S3 U3 ⊢
  generalize w2.heap.size = U at U3 HZ2 ⊢
  have S4 := Lib.hid (S3.out.step (below_alloc w3 (.cells #[] 47)))
  have U4 := Lib.hid (heap_step U3.out (below_alloc w3 (.cells #[] 47)))
  have A4 := Lib.hid (H.out.step S4.out.b)
  have O4 := Lib.hid (que_base (base' := w.heap.size) (que_own (S := shCe) (l := []) (World.ownsRow_made (e := 47) (size := 2) w3 #[] 0 (Nat.le_refl _) (by decide) rfl) rfl) S3.out.b.size)
  have h4 := S4.out.b.size
  have GR := four_at S4.out.r
  have lR := heap_lt S4.out.r
  have lU := heap_lt U4.out
  clear S3 U3
  go_upto_block 0 with (first
    | (at_builtin; refine wpList_append_que shCe rfl _ _ 22 rfl w.heap.size 47 i0 _ 16 Try.underlying22 hi hz0 hz1 hz2 rfl (.slice (some ⟨w3.heap.size, 0, none⟩) 0 0) 0 [] cs rfl O4.out ad n cap rfl hn A4.out (by unfold maxLen; omega) (by omega) h4 ?_; intro ra rc w5 own5 grow5 _; simp only [Nat.zero_add, List.nil_append] at own5; have Q5 := Lib.hid own5; have S5 := Lib.hid (S4.out.grown (B := w3.heap.size) grow5 (que_lt O4.out rfl).1 (fun b xs hb e => que_ne O4.out hb (by decide) _ rfl e.symm) (fun b xs hb e => que_ne O4.out hb (by decide) _ rfl e.symm)); have U5 := Lib.hid ((grow5.block _ (heap_lt U4.out) (fun e => que_ne O4.out U4.out (by decide) _ rfl (Option.some.inj e).symm)).trans U4.out); have GU5 := four_at U5.out; have FU5 := (fun i => frozen_of_row w5 U i _ _ U5.out); have lU5 := heap_lt U5.out; clear own5 grow5)
    | fail)
  have P5 : Hid (So w (w5.setCell ⟨U, 0, none⟩ (.slice ra n rc)) U (.slice ad n cap) n ra rc cs (g : Int) (t : Int) (k : Int) 2 d (g : Int) (t : Int) (k : Int)) := Lib.hid (by
    have hU : w.heap.size + 1 + 1 < U := HZ2.out
    have o2 : ∀ j, j < U → (w5.setCell ⟨U, 0, none⟩ (.slice ra n rc)).heap[j]? = w5.heap[j]? := fun j hj => Below.heap_setCell _ ⟨U, 0, none⟩ _ j (by simp only; omega)
    exact ⟨⟨S5.out.b.setCell (by simp only; omega) _, (o2 _ (by omega)).trans S5.out.r, (o2 _ (by omega)).trans S5.out.o, (o2 _ (by omega)).trans S5.out.z⟩, heap_setCell_same w5 U 0 _ _ _ U5.out, hU, que_set (a := ⟨U, 0, none⟩) Q5.out (que_ne Q5.out U5.out (by decide)) _⟩)
  clear GU5 FU5 lU5 S5 U5 Q5 S4 U4 A4 O4 h4 GR lR lU HZ2
  generalize w5.setCell ⟨U, 0, none⟩ (.slice ra n rc) = w6 at P5 ⊢
  have GR := four_at P5.out.s.r
  have GO := pair_at P5.out.s.o
  have GZ := four_at P5.out.s.z
  have GU := four_at P5.out.u
  have FU := fun i => frozen_of_row w6 U i _ _ P5.out.u
  have FZ := fun i => frozen_of_row w6 (w.heap.size + 1 + 1) i _ _ P5.out.s.z
  have lR := heap_lt P5.out.s.r
  have lO := heap_lt P5.out.s.o
  have lZ := heap_lt P5.out.s.z
  have lU := heap_lt P5.out.u
  subst hok
  have hn0 : 0 < n := by omega
  obtain ⟨B, off, rfl, hB⟩ := que_some P5.out.q hn0
  have C5 := P5.out.cells ha.out
  have FB := fun i => que_froz P5.out.q i
  have lB : B < w6.heap.size := (que_lt P5.out.q rfl).2
  obtain ⟨w1', hvv⟩ := wr_inc hk hM hv
  have HVV := Lib.hid hvv
  obtain ⟨sv, hsv⟩ : ∃ sv, k + 1 = sv := ⟨_, rfl⟩
  have HSV := Lib.hid hsv
  rw [hsv] at w1'
  obtain ⟨av, az⟩ := a
  dsimp only at C5
  clear hvv hsv hv
  have hcd : ((d2 : Int) == 0) = false := by simpa using hc
  clear hc
  have hiv : IntKind.i64.wrap (-1 - az) = iv := HIV.out
  obtain ⟨ab, ao, rfl, hal, ca0, ca1⟩ := at_ce (H.out.step P5.out.s.b) ha.out
  dsimp only at ca0 ca1
  go_upto_region 24 with fail
  have P6 := Lib.hid ((P5.out.put (c := (false, iv)) ha.out).step (Below.refl _ _).drew)
  dsimp only at P6
  go_cut [128] from 115 to 128 (fun pv wy => pv = .pointer (some ⟨B, off + k * 2, none⟩) ∧ Hid (So w wy U (.slice (some ⟨ab, ao, none⟩) n cap) n (some ⟨B, off, none⟩) rc (cs.set k (false, iv)) (g : Int) (t : Int) (k : Int) 2 d (g : Int) (t : Int) (k : Int)))
  case first =>
    go_region
    all_goals go_wp2_with fail
    all_goals go_meet
    all_goals exact ⟨rfl, P6⟩
  case rest =>
  obtain ⟨rfl, P6⟩ := hcut
  generalize wc = w7 at P6 ⊢
  clear GR GO GZ GU FU FZ lR lO lZ lU
  clear C5 FB lB P5 ca0 ca1 hal
  have GR := four_at P6.out.s.r
  have GO := pair_at P6.out.s.o
  have GZ := four_at P6.out.s.z
  have GU := four_at P6.out.u
  have FU := fun i => frozen_of_row w7 U i _ _ P6.out.u
  have FZ := fun i => frozen_of_row w7 (w.heap.size + 1 + 1) i _ _ P6.out.s.z
  have lR := heap_lt P6.out.s.r
  have lO := heap_lt P6.out.s.o
  have lZ := heap_lt P6.out.s.z
  have lU := heap_lt P6.out.u
  go_upto_region 26 with fail
  have P7 := Lib.hid (P6.out.idx 3 (.int .i64 (sv : Nat)) (g : Int) (t : Int) (sv : Int) rfl)
  generalize w7.setCell ⟨U, 3, none⟩ (.int .i64 (sv : Nat)) = w8 at P7 ⊢
  clear GR GO GZ GU FU FZ lR lO lZ lU
  clear P6
  have GR := four_at P7.out.s.r
  have GO := pair_at P7.out.s.o
  have GZ := four_at P7.out.s.z
  have GU := four_at P7.out.u
  have FU := fun i => frozen_of_row w8 U i _ _ P7.out.u
  have FZ := fun i => frozen_of_row w8 (w.heap.size + 1 + 1) i _ _ P7.out.s.z
  have lR := heap_lt P7.out.s.r
  have lO := heap_lt P7.out.s.o
  have lZ := heap_lt P7.out.s.z
  have lU := heap_lt P7.out.u
  rcases HVV.out with ⟨e1, e2⟩ | ⟨e1, e2⟩
  · have hse : ((sv : Int) == (n : Int)) = true := nat_eq true (decide_eq_true (HSV.out.symm.trans e1))
    subst e2
    clear e1
    go_upto_region 28 with fail
    have P8 := Lib.hid (P7.out.idx 3 (.int .i64 ((0 : Nat) : Int)) (g : Int) (t : Int) ((0 : Nat) : Int) rfl)
    rw [show ((0 : Nat) : Int) = 0 from rfl] at P8
    generalize w8.setCell ⟨U, 3, none⟩ (.int .i64 0) = w9 at P8 ⊢
    clear GR GO GZ GU FU FZ lR lO lZ lU
    clear P7
    have GR := four_at P8.out.s.r
    have GO := pair_at P8.out.s.o
    have GZ := four_at P8.out.s.z
    have GU := four_at P8.out.u
    have FU := fun i => frozen_of_row w9 U i _ _ P8.out.u
    have FZ := fun i => frozen_of_row w9 (w.heap.size + 1 + 1) i _ _ P8.out.s.z
    have lR := heap_lt P8.out.s.r
    have lO := heap_lt P8.out.s.o
    have lZ := heap_lt P8.out.s.z
    have lU := heap_lt P8.out.u
    go_wp2_with fail
    refine bodyPost_ret (results_row_tmp2 rfl _ _ (w.heap.size + 1 + 1) 24 #[.slice (some ⟨B, off, none⟩) n rc, .int .i64 (g : Nat), .int .i64 (t : Nat), .int .i64 0] (0, 0) _ rfl (four_set P8.out.s.z) Try.underlying24 rfl size_ring) rfl ?_
    exact ⟨_, _, rfl, que_at (que_four P8.out.q (que_ne P8.out.q P8.out.s.z (by decide)) _ _ _ _), four_below _ _ _ _ P8.out.s.b (by omega)⟩
  · have hse : ((sv : Int) == (n : Int)) = false := nat_eq false (decide_eq_false (fun e => e1 (HSV.out.trans e)))
    obtain rfl : v = sv := e2.trans HSV.out
    clear e1 e2
    go_wp2_with fail
    refine bodyPost_ret (results_row_tmp2 rfl _ _ (w.heap.size + 1 + 1) 24 #[.slice (some ⟨B, off, none⟩) n rc, .int .i64 (g : Nat), .int .i64 (t : Nat), .int .i64 (v : Nat)] (0, 0) _ rfl (four_set P7.out.s.z) Try.underlying24 rfl size_ring) rfl ?_
    exact ⟨_, _, rfl, que_at (que_four P7.out.q (que_ne P7.out.q P7.out.s.z (by decide)) _ _ _ _), four_below _ _ _ _ P7.out.s.b (by omega)⟩
set_option maxHeartbeats 8000000 in
set_option maxRecDepth 100000 in
theorem rstep_take {ad : Option Addr} {cap n : Nat} {cs : List CeR} (w : World) (H : Hid (shCe.At w ad cap cs)) (hn : Hid (cs.length = n)) (hnb : n ≤ 8796093022208) (g t k : Nat) (d : Int) (hM : n ≤ 64) (ht : t < n) (hk : k < n) (p q r : Nat) (HP : Hid (dsR n t k = p)) (HR : Hid (dsR n k g = r)) (hqr : q = p + r) (hqn : q < n) (m : Nat) (hm : m + 1 = n) (ok : Bool) (hok : ok = true) (d1 d2 : Nat) (hr : Hid (rgtR n cs (g : Int) (t : Int) (k : Int) = ok)) (hd1 : Hid (ok = true → d1 = dsR n ((t : Int)).toNat ((k : Int)).toNat ∧ d2 = dsR n ((k : Int)).toNat ((g : Int)).toNat)) (hd0 : Hid (ok = false → d1 = 0 ∧ d2 = 0)) (hd1p : d1 = p) (hd2r : d2 = r) (hc : ¬ p = 0) (a : CeR) (ha : Hid (cs[t]? = some a)) (v : Nat) (hv : wrR n (t + 1) = v) : Calls Try.prog 9 #[.agg #[.slice ad n cap, .int .i64 (g : Nat), .int .i64 (t : Nat), .int .i64 (k : Nat)], .agg #[.int .i64 3, .int .i64 d]] w (RStepOut w n (cs.set t (false, 0)) g v k a.2 0) := by
  have HPQ : Hid (p + r = q) := Lib.hid hqr.symm
  have hq64 : q < 64 := by omega
  have xs : IntKind.i64.wrap ((p : Int) + (r : Int)) = (q : Int) := by rw [IntKind.wrap_i64]; omega
  have xm : IntKind.i64.wrap ((n : Int) - 1) = (m : Int) := by rw [IntKind.wrap_i64]; omega
  clear hqr hm
  subst hd1p hd2r
  obtain ⟨i0, hi, hz0, hz1, hz2⟩ := info_parts' info_cell
  have hx := Lib.hid (sp_new w (.slice ad n cap) (g : Int) (t : Int) (k : Int) 3 d)
  go_enter Try.func9, Try.ntmps9
  go_upto_region 1 with fail
  generalize ((w.alloc (.cells #[.slice ad n cap, .int .i64 (g : Nat), .int .i64 (t : Nat), .int .i64 (k : Nat)] 24)).alloc (.cells #[.int .i64 3, .int .i64 d] 26)).alloc (.cells #[.slice none 0 0, .int .i64 0, .int .i64 0, .int .i64 0] 24) = X at hx ⊢
  have G0 := four_at hx.out.r
  have T0 := pair_at hx.out.o
  have l0 := heap_lt hx.out.r
  have l1 := heap_lt hx.out.o
  have A0 := Lib.hid (H.out.step hx.out.b)
  go_upto_region 2 with (first
    | (go_at_call 10; (with_reducible refine (rparts_W _ A0 hn (g : Int) (t : Int) (k : Int) ok hr d1 d2 hd1 hd0).mono ?_); rintro e w1 ⟨rfl, hb⟩; have S1 := Lib.hid (hx.out.step hb); have G1 := four_at S1.out.r; have k0 := heap_lt S1.out.r; clear hb)
    | fail)
  clear G0 T0 l0 l1 A0 hx
  go_quiet (fail)
  have S2 := Lib.hid (S1.out.step (below_drewN (Below.refl _ _) nq))
  generalize w1.drewN nq = w2 at S2 ⊢
  clear S1 G1 k0
  have GR := four_at S2.out.r
  have lR := heap_lt S2.out.r
  have HZ2 := Lib.hid (heap_lt S2.out.z)
  go_upto_region 4 with fail
  have S3 := Lib.hid (S2.out.step (below_alloc w2 (.cells #[.slice ad n cap, .int .i64 (g : Nat), .int .i64 (t : Nat), .int .i64 (k : Nat)] 24)))
  have U3 := Lib.hid (heap_alloc_new w2 (.cells #[.slice ad n cap, .int .i64 (g : Nat), .int .i64 (t : Nat), .int .i64 (k : Nat)] 24))
  clear GR lR S2
  generalize w2.alloc (.cells #[.slice ad n cap, .int .i64 (g : Nat), .int .i64 (t : Nat), .int .i64 (k : Nat)] 24) = w3 at S3 U3 ⊢
  generalize w2.heap.size = U at U3 HZ2 ⊢
  have S4 := Lib.hid (S3.out.step (below_alloc w3 (.cells #[] 47)))
  have U4 := Lib.hid (heap_step U3.out (below_alloc w3 (.cells #[] 47)))
  have A4 := Lib.hid (H.out.step S4.out.b)
  have O4 := Lib.hid (que_base (base' := w.heap.size) (que_own (S := shCe) (l := []) (World.ownsRow_made (e := 47) (size := 2) w3 #[] 0 (Nat.le_refl _) (by decide) rfl) rfl) S3.out.b.size)
  have h4 := S4.out.b.size
  have GR := four_at S4.out.r
  have lR := heap_lt S4.out.r
  have lU := heap_lt U4.out
  clear S3 U3
  go_upto_block 0 with (first
    | (at_builtin; refine wpList_append_que shCe rfl _ _ 22 rfl w.heap.size 47 i0 _ 16 Try.underlying22 hi hz0 hz1 hz2 rfl (.slice (some ⟨w3.heap.size, 0, none⟩) 0 0) 0 [] cs rfl O4.out ad n cap rfl hn A4.out (by unfold maxLen; omega) (by omega) h4 ?_; intro ra rc w5 own5 grow5 _; simp only [Nat.zero_add, List.nil_append] at own5; have Q5 := Lib.hid own5; have S5 := Lib.hid (S4.out.grown (B := w3.heap.size) grow5 (que_lt O4.out rfl).1 (fun b xs hb e => que_ne O4.out hb (by decide) _ rfl e.symm) (fun b xs hb e => que_ne O4.out hb (by decide) _ rfl e.symm)); have U5 := Lib.hid ((grow5.block _ (heap_lt U4.out) (fun e => que_ne O4.out U4.out (by decide) _ rfl (Option.some.inj e).symm)).trans U4.out); have GU5 := four_at U5.out; have FU5 := (fun i => frozen_of_row w5 U i _ _ U5.out); have lU5 := heap_lt U5.out; clear own5 grow5)
    | fail)
  have P5 : Hid (So w (w5.setCell ⟨U, 0, none⟩ (.slice ra n rc)) U (.slice ad n cap) n ra rc cs (g : Int) (t : Int) (k : Int) 3 d (g : Int) (t : Int) (k : Int)) := Lib.hid (by
    have hU : w.heap.size + 1 + 1 < U := HZ2.out
    have o2 : ∀ j, j < U → (w5.setCell ⟨U, 0, none⟩ (.slice ra n rc)).heap[j]? = w5.heap[j]? := fun j hj => Below.heap_setCell _ ⟨U, 0, none⟩ _ j (by simp only; omega)
    exact ⟨⟨S5.out.b.setCell (by simp only; omega) _, (o2 _ (by omega)).trans S5.out.r, (o2 _ (by omega)).trans S5.out.o, (o2 _ (by omega)).trans S5.out.z⟩, heap_setCell_same w5 U 0 _ _ _ U5.out, hU, que_set (a := ⟨U, 0, none⟩) Q5.out (que_ne Q5.out U5.out (by decide)) _⟩)
  clear GU5 FU5 lU5 S5 U5 Q5 S4 U4 A4 O4 h4 GR lR lU HZ2
  generalize w5.setCell ⟨U, 0, none⟩ (.slice ra n rc) = w6 at P5 ⊢
  have GR := four_at P5.out.s.r
  have GO := pair_at P5.out.s.o
  have GZ := four_at P5.out.s.z
  have GU := four_at P5.out.u
  have FU := fun i => frozen_of_row w6 U i _ _ P5.out.u
  have FZ := fun i => frozen_of_row w6 (w.heap.size + 1 + 1) i _ _ P5.out.s.z
  have lR := heap_lt P5.out.s.r
  have lO := heap_lt P5.out.s.o
  have lZ := heap_lt P5.out.s.z
  have lU := heap_lt P5.out.u
  subst hok
  have hn0 : 0 < n := by omega
  obtain ⟨B, off, rfl, hB⟩ := que_some P5.out.q hn0
  have C5 := P5.out.cells ha.out
  have FB := fun i => que_froz P5.out.q i
  have lB : B < w6.heap.size := (que_lt P5.out.q rfl).2
  obtain ⟨w1', hvv⟩ := wr_inc ht hM hv
  have HVV := Lib.hid hvv
  obtain ⟨sv, hsv⟩ : ∃ sv, t + 1 = sv := ⟨_, rfl⟩
  have HSV := Lib.hid hsv
  rw [hsv] at w1'
  obtain ⟨av, az⟩ := a
  dsimp only at C5
  clear hvv hsv hv
  have hcd : ((d1 : Int) == 0) = false := by simpa using hc
  clear hc
  obtain ⟨ab, ao, rfl, hal, ca0, ca1⟩ := at_ce (H.out.step P5.out.s.b) ha.out
  dsimp only at ca0 ca1
  go_upto_region 5 with fail
  have P6 := Lib.hid ((P5.out.put (c := (false, 0)) ha.out).step (Below.refl _ _).drew)
  dsimp only at P6
  go_cut [11, 41] from 29 to 41 (fun gv pv wy => pv = .pointer (some ⟨B, off + t * 2, none⟩) ∧ gv = .int .i64 az ∧ Hid (So w wy U (.slice (some ⟨ab, ao, none⟩) n cap) n (some ⟨B, off, none⟩) rc (cs.set t (false, 0)) (g : Int) (t : Int) (k : Int) 3 d (g : Int) (t : Int) (k : Int)))
  case first =>
    go_region
    all_goals go_wp2_with fail
    all_goals go_meet
    all_goals exact ⟨rfl, rfl, P6⟩
  case rest =>
  obtain ⟨rfl, rfl, P6⟩ := hcut
  generalize wc = w7 at P6 ⊢
  clear GR GO GZ GU FU FZ lR lO lZ lU
  clear C5 FB lB P5 ca0 ca1 hal
  have GR := four_at P6.out.s.r
  have GO := pair_at P6.out.s.o
  have GZ := four_at P6.out.s.z
  have GU := four_at P6.out.u
  have FU := fun i => frozen_of_row w7 U i _ _ P6.out.u
  have FZ := fun i => frozen_of_row w7 (w.heap.size + 1 + 1) i _ _ P6.out.s.z
  have lR := heap_lt P6.out.s.r
  have lO := heap_lt P6.out.s.o
  have lZ := heap_lt P6.out.s.z
  have lU := heap_lt P6.out.u
  go_upto_region 7 with fail
  have P7 := Lib.hid (P6.out.idx 2 (.int .i64 (sv : Nat)) (g : Int) (sv : Int) (k : Int) rfl)
  generalize w7.setCell ⟨U, 2, none⟩ (.int .i64 (sv : Nat)) = w8 at P7 ⊢
  clear GR GO GZ GU FU FZ lR lO lZ lU
  clear P6
  have GR := four_at P7.out.s.r
  have GO := pair_at P7.out.s.o
  have GZ := four_at P7.out.s.z
  have GU := four_at P7.out.u
  have FU := fun i => frozen_of_row w8 U i _ _ P7.out.u
  have FZ := fun i => frozen_of_row w8 (w.heap.size + 1 + 1) i _ _ P7.out.s.z
  have lR := heap_lt P7.out.s.r
  have lO := heap_lt P7.out.s.o
  have lZ := heap_lt P7.out.s.z
  have lU := heap_lt P7.out.u
  rcases HVV.out with ⟨e1, e2⟩ | ⟨e1, e2⟩
  · have hse : ((sv : Int) == (n : Int)) = true := nat_eq true (decide_eq_true (HSV.out.symm.trans e1))
    subst e2
    clear e1
    go_upto_region 28 with fail
    have P8 := Lib.hid (P7.out.idx 2 (.int .i64 ((0 : Nat) : Int)) (g : Int) ((0 : Nat) : Int) (k : Int) rfl)
    rw [show ((0 : Nat) : Int) = 0 from rfl] at P8
    generalize w8.setCell ⟨U, 2, none⟩ (.int .i64 0) = w9 at P8 ⊢
    clear GR GO GZ GU FU FZ lR lO lZ lU
    clear P7
    have GR := four_at P8.out.s.r
    have GO := pair_at P8.out.s.o
    have GZ := four_at P8.out.s.z
    have GU := four_at P8.out.u
    have FU := fun i => frozen_of_row w9 U i _ _ P8.out.u
    have FZ := fun i => frozen_of_row w9 (w.heap.size + 1 + 1) i _ _ P8.out.s.z
    have lR := heap_lt P8.out.s.r
    have lO := heap_lt P8.out.s.o
    have lZ := heap_lt P8.out.s.z
    have lU := heap_lt P8.out.u
    go_wp2_with fail
    refine bodyPost_ret (results_row_tmp2 rfl _ _ (w.heap.size + 1 + 1) 24 #[.slice (some ⟨B, off, none⟩) n rc, .int .i64 (g : Nat), .int .i64 0, .int .i64 (k : Nat)] (0, 0) _ rfl (four_set P8.out.s.z) Try.underlying24 rfl size_ring) rfl ?_
    exact ⟨_, _, rfl, que_at (que_four P8.out.q (que_ne P8.out.q P8.out.s.z (by decide)) _ _ _ _), four_below _ _ _ _ P8.out.s.b (by omega)⟩
  · have hse : ((sv : Int) == (n : Int)) = false := nat_eq false (decide_eq_false (fun e => e1 (HSV.out.trans e)))
    obtain rfl : v = sv := e2.trans HSV.out
    clear e1 e2
    go_wp2_with fail
    refine bodyPost_ret (results_row_tmp2 rfl _ _ (w.heap.size + 1 + 1) 24 #[.slice (some ⟨B, off, none⟩) n rc, .int .i64 (g : Nat), .int .i64 (v : Nat), .int .i64 (k : Nat)] (0, 0) _ rfl (four_set P7.out.s.z) Try.underlying24 rfl size_ring) rfl ?_
    exact ⟨_, _, rfl, que_at (que_four P7.out.q (que_ne P7.out.q P7.out.s.z (by decide)) _ _ _ _), four_below _ _ _ _ P7.out.s.b (by omega)⟩
end Go.Proofs.Ytipkmmajhhcadaa
