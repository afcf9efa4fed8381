/- Package uart: two queues of the call's own, what stays; the boxes of a step; the walks of receive and perform. -/
import Derived.Test.YtalcfbdnnlapnaaUarB
import Derived.RegionTactic
import Derived.Deep.CutRange
namespace Go.Proofs.Ytalcfbdnnlapnaa
open Go.RowKit

section
variable {P : Program}
theorem results_row1 {fn : Func} {p : Tmp} {ty : TypeId} (h : fn.results = #[.cell p ty]) (tmps : Array Value) (w : World) (g : Nat) (t : TypeId) (cs : Array Value) (fr : Nat × Nat) (d : TypeDesc)
    (hp : tmps.getD p undef = .pointer (some ⟨g, 0, none⟩)) (hg : w.heap[g]? = some (.cells cs t fr))
    (hu : P.underlying ty = some d) (hd : (match d with | .struct _ | .array _ _ => true | _ => false) = true) (hi : (P.info? ty).map (·.size) = some cs.size) :
    (results fn tmps).run P w = .ok (.agg cs) w := by
  have hp' : tmps[p]?.getD undef = .pointer (some ⟨g, 0, none⟩) := by simpa using hp
  simp [results, h, hp', asAddr, run_loadVar_row w g t ty cs fr d hg hu hd hi]
theorem results_tmp2_row {fn : Func} {p u v : Tmp} {ty : TypeId} (h : fn.results = #[.tmp u, .tmp v, .cell p ty]) (tmps : Array Value) (w : World) (g : Nat) (t : TypeId) (cs : Array Value) (fr : Nat × Nat) (d : TypeDesc)
    (hp : tmps.getD p undef = .pointer (some ⟨g, 0, none⟩)) (hg : w.heap[g]? = some (.cells cs t fr))
    (hu : P.underlying ty = some d) (hd : (match d with | .struct _ | .array _ _ => true | _ => false) = true) (hi : (P.info? ty).map (·.size) = some cs.size) :
    (results fn tmps).run P w = .ok (.tuple #[tmps.getD u undef, tmps.getD v undef, .agg cs]) w := by
  have hp' : tmps[p]?.getD undef = .pointer (some ⟨g, 0, none⟩) := by simpa using hp
  simp [results, h, hp', asAddr, run_loadVar_row w g t ty cs fr d hg hu hd hi]
end
abbrev tB : TypeId := 5
abbrev tU : TypeId := 24
abbrev tO : TypeId := 26
theorem heap_alloc3_new (w : World) (A B C : Obj) : (((w.alloc A).alloc B).alloc C).heap[w.heap.size + 1 + 1]? = some C := heap3_2 w A B C
/-- All but two blocks stays. -/
structure Kp (w w' : World) (r1 r2 : Option Nat) : Prop where
  sz : w.heap.size ≤ w'.heap.size
  blk : ∀ k, k < w.heap.size → ¬ r1 = some k → ¬ r2 = some k → w'.heap[k]? = w.heap[k]?
section
variable {w w' w'' : World} {r1 r2 : Option Nat}
theorem kp_below (h : Below w.heap.size w w') (r1 r2 : Option Nat) : Kp w w' r1 r2 := ⟨h.size, fun k hk _ _ => h.block k hk⟩
theorem kp_left (h : w.grownBy w' r1) (r2 : Option Nat) : Kp w w' r1 r2 := ⟨h.size, fun k hk h1 _ => h.block k hk (fun e => h1 e.symm)⟩
theorem kp_right (h : w.grownBy w' r2) (r1 : Option Nat) : Kp w w' r1 r2 := ⟨h.size, fun k hk _ h2 => h.block k hk (fun e => h2 e.symm)⟩
theorem Kp.trans (h : Kp w w' r1 r2) (h' : Kp w' w'' r1 r2) : Kp w w'' r1 r2 := ⟨Nat.le_trans h.sz h'.sz, fun k hk h1 h2 => (h'.blk k (Nat.lt_of_lt_of_le hk h.sz) h1 h2).trans (h.blk k hk h1 h2)⟩
theorem Kp.set (h : Kp w w' r1 r2) {B i : Nat} (hB : w.heap.size ≤ B) (u : Value) : Kp w (w'.setCell ⟨B, i, none⟩ u) r1 r2 :=
  ⟨by simpa using h.sz, fun k hk h1 h2 => (Below.heap_setCell w' ⟨B, i, none⟩ u k (fun e => by simp only at e; omega)).trans (h.blk k hk h1 h2)⟩
theorem Kp.four (h : Kp w w' r1 r2) {B : Nat} (hB : w.heap.size ≤ B) (x y z u : Value) : Kp w ((((w'.setCell ⟨B, 0, none⟩ x).setCell ⟨B, 1, none⟩ y).setCell ⟨B, 2, none⟩ z).setCell ⟨B, 3, none⟩ u) r1 r2 :=
  (((h.set hB x).set hB y).set hB z).set hB u
end
/-- The new slice lies where the old one lay, or in what is new. -/
def Fr (w : World) (v v' : Value) : Prop := ∀ g, v'.ownBlock = some g → v.ownBlock = some g ∨ w.heap.size ≤ g
theorem fr_refl (w : World) (v : Value) : Fr w v v := fun _ h => Or.inl h
/-- Two queues of the call's own. -/
structure DevQ (w0 w : World) (iv ov : Value) (n m : Nat) (inn out : List UInt8) : Prop where
  b : Below w0.heap.size w0 w
  i : Que shB w w0.heap.size tB iv n inn
  o : Que shB w w0.heap.size tB ov m out
  ap : ∀ g, iv.ownBlock = some g → ¬ ov.ownBlock = some g
section
variable {w0 w w' : World} {iv ov iv' ov' : Value} {n m n' m' : Nat} {inn out inn' out' : List UInt8}
theorem DevQ.step (h : DevQ w0 w iv ov n m inn out) (hb : Below w.heap.size w w') : DevQ w0 w' iv ov n m inn out := ⟨pstep h.b hb, que_step h.i hb, que_step h.o hb, h.ap⟩
theorem DevQ.set (h : DevQ w0 w iv ov n m inn out) {B : Nat} (hB : w0.heap.size ≤ B) (h1 : ∀ g, iv.ownBlock = some g → g ≠ B) (h2 : ∀ g, ov.ownBlock = some g → g ≠ B) (i : Nat) (u : Value) : DevQ w0 (w.setCell ⟨B, i, none⟩ u) iv ov n m inn out :=
  ⟨h.b.setCell hB _, que_set h.i h1 _, que_set h.o h2 _, h.ap⟩
theorem DevQ.four (h : DevQ w0 w iv ov n m inn out) {B : Nat} (hB : w0.heap.size ≤ B) (h1 : ∀ g, iv.ownBlock = some g → g ≠ B) (h2 : ∀ g, ov.ownBlock = some g → g ≠ B) (x y z u : Value) :
    DevQ w0 ((((w.setCell ⟨B, 0, none⟩ x).setCell ⟨B, 1, none⟩ y).setCell ⟨B, 2, none⟩ z).setCell ⟨B, 3, none⟩ u) iv ov n m inn out :=
  (((h.set hB h1 h2 0 x).set hB h1 h2 1 y).set hB h1 h2 2 z).set hB h1 h2 3 u
theorem DevQ.putI (h : DevQ w0 w iv ov n m inn out) (hq : Que shB w' w0.heap.size tB iv' n' inn') (hg : w.grownBy w' iv.ownBlock) (hf : Fr w iv iv') : DevQ w0 w' iv' ov n' m inn' out :=
  ⟨h.b.grown hg h.b.size (fun k hk => (que_lt h.i hk).1), hq, que_kept h.o hg (fun g hg' e => h.ap g e.symm hg'), fun g hg' => by
    rcases hf g hg' with e | e
    · exact h.ap g e
    · exact fun e2 => by have := (que_lt h.o e2).2; omega⟩
theorem DevQ.putO (h : DevQ w0 w iv ov n m inn out) (hq : Que shB w' w0.heap.size tB ov' m' out') (hg : w.grownBy w' ov.ownBlock) (hf : Fr w ov ov') : DevQ w0 w' iv ov' n m' inn out' :=
  ⟨h.b.grown hg h.b.size (fun k hk => (que_lt h.o hk).1), que_kept h.i hg (fun g hg' e => h.ap g hg' e.symm), hq, fun g hg' e2 => by
    rcases hf g e2 with e | e
    · exact h.ap g hg' e
    · have := (que_lt h.i hg').2; omega⟩
end
/-- The boxes of a step: the device, the operation, the result. -/
structure Sp (w wx : World) (iv ov : Value) (lost : Int) (asks : Bool) (k b : Int) : Prop where
  d : wx.heap[w.heap.size]? = some (.cells #[iv, ov, .int .i64 lost, .bool asks] tU (0, 0))
  o : wx.heap[w.heap.size + 1]? = some (.cells #[.int .i64 k, .int .u8 b] tO (0, 0))
  z : wx.heap[w.heap.size + 1 + 1]? = some (.cells #[.slice none 0 0, .slice none 0 0, .int .i64 0, .bool false] tU (0, 0))
section
variable {w wx wy : World} {iv ov : Value} {lost : Int} {asks : Bool} {k b : Int}
theorem sp_new (w : World) (iv ov : Value) (lost : Int) (asks : Bool) (k b : Int) : Sp w (((w.alloc (.cells #[iv, ov, .int .i64 lost, .bool asks] tU)).alloc (.cells #[.int .i64 k, .int .u8 b] tO)).alloc (.cells #[.slice none 0 0, .slice none 0 0, .int .i64 0, .bool false] tU)) iv ov lost asks k b :=
  ⟨heap3_0 _ _ _ _, heap3_1 _ _ _ _, heap3_2 _ _ _ _⟩
theorem Sp.step (h : Sp w wx iv ov lost asks k b) (hb : Below wx.heap.size wx wy) : Sp w wy iv ov lost asks k b := ⟨heap_step h.d hb, heap_step h.o hb, heap_step h.z hb⟩
theorem Sp.grown (h : Sp w wx iv ov lost asks k b) {r : Option Nat} (hg : wx.grownBy wy r) (hne : ∀ B t cs, wx.heap[B]? = some (.cells cs t (0, 0)) → ¬ t = tB → r ≠ some B) : Sp w wy iv ov lost asks k b :=
  ⟨(hg.block _ (heap_lt h.d) (fun e => hne _ _ _ h.d (by decide) e.symm)).trans h.d, (hg.block _ (heap_lt h.o) (fun e => hne _ _ _ h.o (by decide) e.symm)).trans h.o, (hg.block _ (heap_lt h.z) (fun e => hne _ _ _ h.z (by decide) e.symm)).trans h.z⟩
end
theorem que_apart {w : World} {base : Nat} {v : Value} {n : Nat} {l : List UInt8} (h : Que shB w base tB v n l) : ∀ B t cs, w.heap[B]? = some (.cells cs t (0, 0)) → ¬ t = tB → v.ownBlock ≠ some B := fun _ _ _ hB ht e => que_ne h hB ht _ e rfl
/-- Receive, where all is full. -/
def RecvOut (w0 w : World) (iv ov : Value) (m : Nat) (out : List UInt8) (n' : Nat) (inn' : List UInt8) (lost' : Nat) (asks : Bool) (e : Ending) (w' : World) : Prop :=
  ∃ ia ic, e = .returned (.agg #[.slice ia n' ic, ov, .int .i64 (lost' : Nat), .bool asks]) ∧ DevQ w0 w' (.slice ia n' ic) ov n' m inn' out ∧ Kp w w' iv.ownBlock ov.ownBlock ∧ Fr w iv (.slice ia n' ic)
/-- The boxes of a call that takes a device and gives one. -/
structure Bx (w X : World) (iv ov : Value) (lost : Int) (asks : Bool) : Prop where
  b : Below w.heap.size w X
  d : X.heap[w.heap.size]? = some (.cells #[iv, ov, .int .i64 lost, .bool asks] tU (0, 0))
  z : X.heap[w.heap.size + 1]? = some (.cells #[.slice none 0 0, .slice none 0 0, .int .i64 0, .bool false] tU (0, 0))
section
variable {w X Y : World} {iv ov : Value} {lost : Int} {asks : Bool}
theorem bx_new (w : World) (iv ov : Value) (lost : Int) (asks : Bool) : Bx w ((w.alloc (.cells #[iv, ov, .int .i64 lost, .bool asks] tU)).alloc (.cells #[.slice none 0 0, .slice none 0 0, .int .i64 0, .bool false] tU)) iv ov lost asks :=
  ⟨below_two w _ _, heap_step (heap_alloc_new w _) (below_alloc _ _), heap_alloc2_new w _ _⟩
theorem Bx.step (h : Bx w X iv ov lost asks) (hb : Below X.heap.size X Y) : Bx w Y iv ov lost asks := ⟨pstep h.b hb, heap_step h.d hb, heap_step h.z hb⟩
theorem Bx.grown (h : Bx w X iv ov lost asks) {r : Option Nat} (hg : X.grownBy Y r) (hne : ∀ B t cs, X.heap[B]? = some (.cells cs t (0, 0)) → ¬ t = tB → r ≠ some B) :
    Y.heap[w.heap.size]? = some (.cells #[iv, ov, .int .i64 lost, .bool asks] tU (0, 0)) ∧ Y.heap[w.heap.size + 1]? = some (.cells #[.slice none 0 0, .slice none 0 0, .int .i64 0, .bool false] tU (0, 0)) :=
  ⟨(hg.block _ (heap_lt h.d) (fun e => hne _ _ _ h.d (by decide) e.symm)).trans h.d, (hg.block _ (heap_lt h.z) (fun e => hne _ _ _ h.z (by decide) e.symm)).trans h.z⟩
end
set_option maxHeartbeats 1000000 in
set_option maxRecDepth 100000 in
theorem recv_full {w0 w : World} {ia oa : Option Addr} {n ic m oc : Nat} {inn out : List UInt8} (lost : Nat) (asks : Bool) (b : UInt8) (H : Hid (DevQ w0 w (.slice ia n ic) (.slice oa m oc) n m inn out)) (hn : Hid (decide (n = 16) = true)) (hl : lost < 1099511627776) (z1 : Nat) (hz1 : lost + 1 = z1) :
    Calls Try.prog 23 #[.agg #[.slice ia n ic, .slice oa m oc, .int .i64 (lost : Nat), .bool asks], .int .u8 (ub b)] w (RecvOut w0 w (.slice ia n ic) (.slice oa m oc) m out n inn z1 asks) := by
  have hx := Lib.hid (bx_new w (.slice ia n ic) (.slice oa m oc) lost asks)
  have w1 : IntKind.i64.wrap ((lost : Int) + 1) = (z1 : Int) := by rw [IntKind.wrap_i64]; omega
  go_enter Try.func23, Try.ntmps23
  go_upto_region 1 with fail
  generalize (w.alloc (.cells #[.slice ia n ic, .slice oa m oc, .int .i64 (lost : Nat), .bool asks] 24)).alloc (.cells #[.slice none 0 0, .slice none 0 0, .int .i64 0, .bool false] 24) = X at hx ⊢
  have G0 := four_at hx.out.d
  have G1 := four_at hx.out.z
  have F0 := fun i => frozen_of_row X w.heap.size i _ _ hx.out.d
  have F1 := fun i => frozen_of_row X (w.heap.size + 1) i _ _ hx.out.z
  have l0 := heap_lt hx.out.d
  have l1 := heap_lt hx.out.z
  clear hl hz1
  go_wp2_with (first
    | (go_at_call 21; (with_reducible refine (full_W _ _ _ _ true hn).mono ?_); rintro e w5 ⟨rfl, rfl⟩)
    | fail)
  have hz2 := (Below.heap_setCell w5 ⟨w.heap.size, 2, none⟩ (.int .i64 (z1 : Nat)) (w.heap.size + 1) (by simp)).trans hx.out.z
  refine bodyPost_ret (results_row1 rfl _ _ (w.heap.size + 1) 24 #[.slice ia n ic, .slice oa m oc, .int .i64 (z1 : Nat), .bool asks] (0, 0) _ rfl (four_set hz2) Try.underlying24 rfl size_dev) rfl ?_
  have hB0 : Below w.heap.size w (w5.setCell ⟨w.heap.size, 2, none⟩ (.int .i64 (z1 : Nat))) := hx.out.b.setCell (Nat.le_refl _) _
  have hB := four_below (b := w.heap.size + 1) (.slice ia n ic) (.slice oa m oc) (.int .i64 (z1 : Nat)) (.bool asks) hB0 (Nat.le_succ _)
  exact ⟨ia, ic, rfl, H.out.step hB, kp_below hB _ _, fr_refl _ _⟩
set_option maxHeartbeats 1000000 in
set_option maxRecDepth 100000 in
theorem recv_room {w0 w : World} {ia oa : Option Addr} {n ic m oc : Nat} {inn out : List UInt8} (lost : Nat) (asks : Bool) (b : UInt8) (H : Hid (DevQ w0 w (.slice ia n ic) (.slice oa m oc) n m inn out)) (hn : n < 16) :
    Calls Try.prog 23 #[.agg #[.slice ia n ic, .slice oa m oc, .int .i64 (lost : Nat), .bool asks], .int .u8 (ub b)] w (RecvOut w0 w (.slice ia n ic) (.slice oa m oc) m out (n + 1) (inn ++ [b]) lost asks) := by
  obtain ⟨i0, hi, hz0, hz1, hz2⟩ := info_parts' info_byte
  have hx := Lib.hid (bx_new w (.slice ia n ic) (.slice oa m oc) lost asks)
  have hsx : ((w.alloc (.cells #[.slice ia n ic, .slice oa m oc, .int .i64 (lost : Nat), .bool asks] 24)).alloc (.cells #[.slice none 0 0, .slice none 0 0, .int .i64 0, .bool false] 24)).heap.size = w.heap.size + 1 + 1 := by simp
  have hnf := Lib.hid (decide_eq_false (show ¬ n = 16 by omega))
  go_enter Try.func23, Try.ntmps23
  go_upto_region 1 with fail
  generalize (w.alloc (.cells #[.slice ia n ic, .slice oa m oc, .int .i64 (lost : Nat), .bool asks] 24)).alloc (.cells #[.slice none 0 0, .slice none 0 0, .int .i64 0, .bool false] 24) = X at hx hsx ⊢
  have G0 := four_at hx.out.d
  have l0 := heap_lt hx.out.d
  have l1 := heap_lt hx.out.z
  have bl := below_alloc X (.cells #[.int .u8 (ub b)] 5)
  have D2 := Lib.hid ((H.out.step hx.out.b).step bl)
  have X2 := Lib.hid (hx.out.step bl)
  have L2 := Lib.hid (byte_lit X b 1)
  have hs0 := D2.out.b.size
  have HFR := Lib.hid (que_apart D2.out.i)
  have HSX := Lib.hid hsx
  have K1 := Lib.hid (kp_below X2.out.b (Value.slice ia n ic).ownBlock (Value.slice oa m oc).ownBlock)
  clear bl hsx hx
  go_wp2_with (first
    | (go_at_call 21; (with_reducible refine (full_W _ _ _ _ false hnf).mono ?_); rintro e w5 ⟨rfl, rfl⟩)
    | (at_builtin; refine wpList_append_que shB rfl _ _ 22 rfl w0.heap.size 5 i0 _ 1 Try.underlying22 hi hz0 hz1 hz2 rfl (.slice ia n ic) n inn [b] rfl D2.out.i (some ⟨w5.heap.size, 0, none⟩) 1 1 rfl (Lib.hid rfl) L2.out (by unfold maxLen; omega) (by omega) hs0 ?_; intro ra rc w4 own4 grow4 new4; have X4 := Lib.hid (X2.out.grown grow4 HFR.out); have G4 := four_at X4.out.1; have G5 := four_at X4.out.2; have F4 := (fun i => frozen_of_row w4 w.heap.size i _ _ X4.out.1); have F5 := (fun i => frozen_of_row w4 (w.heap.size + 1) i _ _ X4.out.2); have l4 := heap_lt X4.out.1; have l5 := heap_lt X4.out.2; have P4 := Lib.hid own4; have E4 := Lib.hid grow4; have N4 := Lib.hid new4; clear own4 grow4 new4)
    | fail)
  have hz6 := (Below.heap_setCell w4 ⟨w.heap.size, 0, none⟩ (.slice ra (n + 1) rc) (w.heap.size + 1) (by simp)).trans X4.out.2
  refine bodyPost_ret (results_row1 rfl _ _ (w.heap.size + 1) 24 #[.slice ra (n + 1) rc, .slice oa m oc, .int .i64 (lost : Nat), .bool asks] (0, 0) _ rfl (four_set hz6) Try.underlying24 rfl size_dev) rfl ?_
  have hfr : Fr (w5.alloc (.cells #[.int .u8 (ub b)] 5)) (.slice ia n ic) (.slice ra (n + 1) rc) := fun g hg => (N4.out g hg).imp id (fun e => by rw [e]; exact Nat.le_refl _)
  have D4 := D2.out.putI P4.out E4.out hfr
  have n1 := que_ne D4.i X4.out.1 (by decide)
  have n2 := que_ne D4.i X4.out.2 (by decide)
  have n3 := que_ne D4.o X4.out.1 (by decide)
  have n4 := que_ne D4.o X4.out.2 (by decide)
  have hw0 : w0.heap.size ≤ w.heap.size := H.out.b.size
  exact ⟨ra, rc, rfl, (D4.set (B := w.heap.size) hw0 n1 n3 0 _).four (B := w.heap.size + 1) (by omega) n2 n4 _ _ _ _, ((K1.out.trans (kp_left E4.out _)).set (B := w.heap.size) (Nat.le_refl _) _).four (B := w.heap.size + 1) (by omega) _ _ _ _, fun g hg => (hfr g hg).imp id (fun h => Nat.le_trans X2.out.b.size h)⟩
end Go.Proofs.Ytalcfbdnnlapnaa
