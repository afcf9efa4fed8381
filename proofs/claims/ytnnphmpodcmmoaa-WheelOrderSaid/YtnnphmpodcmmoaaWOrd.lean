/- WheelOrder: which was set first is no matter, at one tick. -/
import Derived.Test.YtnnphmpodcmmoaaWCan
import Derived.Test.YtnnphmpodcmmoaaInsT
import Derived.Test.YtnnphmpodcmmoaaFind
import Derived.Lib.MinMax
import Derived.Deep.RegionHeld3
import Derived.Deep.CutRange
namespace Go.Proofs.Ytnnphmpodcmmoaa
open Go.RowKit

/-- Timers are set one behind the other: which are set then. -/
theorem adds_run : ∀ (l : List TmT) (s : StT), GoodT s → (∀ o ∈ l, o.k = 1) → (l.Pairwise fun a b => ¬ a.i = b.i) → (∀ o ∈ l, setQ s.set o.i = false) →
    (runT s l).now = s.now ∧ (runT s l).fired = s.fired ∧ ∀ t i, (t, i) ∈ (runT s l).set ↔ (t, i) ∈ s.set ∨ ∃ o ∈ l, o.i = i ∧ 1 ≤ o.n ∧ o.n ≤ 511 ∧ t = s.now + o.n.toNat
  | [], s, _, _, _, _ => ⟨rfl, rfl, fun t i => by simp [runT]⟩
  | o :: r, s, hg, hk, hp, hq => by
    rw [List.pairwise_cons] at hp
    have hk1 := hk o List.mem_cons_self
    have hq1 := hq o List.mem_cons_self
    by_cases hn : 1 ≤ o.n ∧ o.n ≤ 511
    · have he : errT s o = 0 := by simp [errT, hk1, hn, hq1]
      have e : stepT s o = addT s o.i o.n.toNat := by unfold stepT; rw [if_pos he]; unfold doT; rw [if_pos hk1]
      obtain ⟨h1, h2, h3⟩ := adds_run r (stepT s o) (good_step hg o) (fun x hx => hk x (List.mem_cons_of_mem _ hx)) hp.2 (fun x hx => by
        have hne := hp.1 x hx
        have hx2 := hq x (List.mem_cons_of_mem _ hx)
        cases hb : setQ (stepT s o).set x.i with
        | false => rfl
        | true =>
          rw [e] at hb
          obtain ⟨t, ht⟩ := setQ_mem.1 hb
          rcases mem_ins.1 ht with q | q
          · exact absurd (congrArg Prod.snd q).symm hne
          · rw [setQ_mem.2 ⟨t, q⟩] at hx2
            cases hx2)
      rw [runT]
      refine ⟨h1.trans (by rw [e]; rfl), h2.trans (by rw [e]; rfl), fun t i => ?_⟩
      rw [h3, e]
      constructor
      · rintro (h | ⟨x, hx, hxi, hx1, hx2, hx3⟩)
        · rcases mem_ins.1 h with q | q
          · cases q; exact Or.inr ⟨o, List.mem_cons_self, rfl, hn.1, hn.2, rfl⟩
          · exact Or.inl q
        · exact Or.inr ⟨x, List.mem_cons_of_mem _ hx, hxi, hx1, hx2, hx3⟩
      · rintro (h | ⟨x, hx, hxi, hx1, hx2, hx3⟩)
        · exact Or.inl (mem_ins.2 (Or.inr h))
        · rcases List.mem_cons.1 hx with q | q
          · subst q
            exact Or.inl (mem_ins.2 (Or.inl (by rw [hx3, hxi])))
          · exact Or.inr ⟨x, q, hxi, hx1, hx2, hx3⟩
    · have he : ¬ errT s o = 0 := by simp [errT, hk1]; omega
      have e : stepT s o = s := by unfold stepT; rw [if_neg he]
      obtain ⟨h1, h2, h3⟩ := adds_run r s hg (fun x hx => hk x (List.mem_cons_of_mem _ hx)) hp.2 (fun x hx => hq x (List.mem_cons_of_mem _ hx))
      rw [runT, e]
      refine ⟨h1, h2, fun t i => ?_⟩
      rw [h3]
      constructor
      · rintro (h | ⟨x, hx, hh⟩)
        · exact Or.inl h
        · exact Or.inr ⟨x, List.mem_cons_of_mem _ hx, hh⟩
      · rintro (h | ⟨x, hx, hxi, hx1, hx2, hx3⟩)
        · exact Or.inl h
        · rcases List.mem_cons.1 hx with q | q
          · subst q
            exact absurd ⟨hx1, hx2⟩ hn
          · exact Or.inr ⟨x, q, hxi, hx1, hx2, hx3⟩
theorem adds_rev {l : List TmT} (hk : ∀ o ∈ l, o.k = 1) (hp : l.Pairwise fun a b => ¬ a.i = b.i) : runT newT l.reverse = runT newT l := by
  obtain ⟨a1, a2, a3⟩ := adds_run l newT good_new hk hp (fun _ _ => rfl)
  obtain ⟨b1, b2, b3⟩ := adds_run l.reverse newT good_new (fun o ho => hk o (List.mem_reverse.1 ho)) (List.pairwise_reverse.2 (hp.imp fun h e => h e.symm)) (fun _ _ => rfl)
  have e : (runT newT l.reverse).set = (runT newT l).set := lex_ext (good_run good_new).srt (good_run good_new).srt fun x => by
    obtain ⟨t, i⟩ := x
    rw [a3, b3]
    simp only [List.mem_reverse]
  generalize runT newT l.reverse = s at *
  generalize runT newT l = s' at *
  cases s
  cases s'
  simp only at a1 a2 b1 b2 e
  rw [a1, a2, b1, b2, e]
def opL (ids tks : List Int) (k : Nat) : List TmT := (List.range k).map fun j => ⟨1, ids.getD j 0, tks.getD j 0⟩
theorem opL_next (ids tks : List Int) (k : Nat) : opL ids tks (k + 1) = opL ids tks k ++ [⟨1, ids.getD k 0, tks.getD k 0⟩] := by
  unfold opL
  rw [List.range_succ, List.map_append]
  rfl
theorem opL_len (ids tks : List Int) (k : Nat) : (opL ids tks k).length = k := by simp [opL]
theorem opL_k (ids tks : List Int) (k : Nat) : ∀ o ∈ opL ids tks k, o.k = 1 := by
  intro o ho
  unfold opL at ho
  obtain ⟨j, _, rfl⟩ := List.mem_map.1 ho
  rfl
theorem opL_mem {ids tks : List Int} {k : Nat} {o : TmT} (ho : o ∈ opL ids tks k) : ∃ j, j < k ∧ o.i = ids.getD j 0 := by
  unfold opL at ho
  obtain ⟨j, hj, rfl⟩ := List.mem_map.1 ho
  exact ⟨j, List.mem_range.1 hj, rfl⟩
theorem opL_pw {ids tks : List Int} {k : Nat} (h : ∀ a b, a < b → b < k → ¬ ids.getD a 0 = ids.getD b 0) : (opL ids tks k).Pairwise fun a b => ¬ a.i = b.i := by
  unfold opL
  rw [List.pairwise_map]
  refine List.Pairwise.imp_of_mem ?_ List.pairwise_lt_range
  intro a b _ hb hab
  exact h a b hab (List.mem_range.1 hb)
/-- Both rows, in blocks of the call's own that are two. -/
structure LpO (w1 wx : World) (va vb : Value) (k : Nat) (l : List TmT) : Prop where
  b : Below w1.heap.size w1 wx
  oa : wx.ownsRow w1.heap.size 36 3 va k (shT.flat l)
  ob : wx.ownsRow w1.heap.size 36 3 vb k (shT.flat l.reverse)
  ne : ∀ g, va.ownBlock = some g → vb.ownBlock = some g → False
theorem LpO.step {w1 wx wy : World} {va vb : Value} {k : Nat} {l : List TmT} (h : LpO w1 wx va vb k l) (hb : Below wx.heap.size wx wy) : LpO w1 wy va vb k l := ⟨pstep h.b hb, own_step h.oa hb, own_step h.ob hb, h.ne⟩
/-- Between the two: the first row has grown. -/
structure LpM (w1 wx : World) (va vb : Value) (k : Nat) (l : List TmT) (o : TmT) : Prop where
  b : Below w1.heap.size w1 wx
  oa : wx.ownsRow w1.heap.size 36 3 va (k + 1) (shT.flat (l ++ [o]))
  ob : wx.ownsRow w1.heap.size 36 3 vb k (shT.flat l.reverse)
  ne : ∀ g, va.ownBlock = some g → vb.ownBlock = some g → False
section
variable {w1 X wy : World} {va va' vb vb' : Value} {k : Nat} {l : List TmT} {o : TmT}
theorem LpM.step (h : LpM w1 X va vb k l o) (hb : Below X.heap.size X wy) : LpM w1 wy va vb k l o := ⟨pstep h.b hb, own_step h.oa hb, own_step h.ob hb, h.ne⟩
theorem LpO.app (h : LpO w1 X va vb k l) (ho : wy.ownsRow w1.heap.size 36 3 va' (k + 1) (shT.flat (l ++ [o]))) (hg : X.grownBy wy va.ownBlock) (hn : ∀ g, va'.ownBlock = some g → va.ownBlock = some g ∨ g = X.heap.size) : LpM w1 wy va' vb k l o :=
  ⟨h.b.grown hg h.b.size (fun _ hq => (own_lt h.oa hq).1), ho, own_heap h.ob fun g _ hq ho' => (hg.block g (heap_lt ho') (fun e => h.ne g e.symm hq)).trans ho', fun g h1 h2 => by
    rcases hn g h1 with e | e
    · exact h.ne g e h2
    · have := (own_lt h.ob h2).2
      omega⟩
theorem LpM.ins (h : LpM w1 X va vb k l o) (ho : wy.ownsRow w1.heap.size 36 3 vb' (k + 1) (shT.flat (o :: l.reverse))) (hg : X.grownBy wy vb.ownBlock) (hn : ∀ g, vb'.ownBlock = some g → vb.ownBlock = some g ∨ X.heap.size ≤ g) : LpO w1 wy va vb' (k + 1) (l ++ [o]) :=
  ⟨h.b.grown hg h.b.size (fun _ hq => (own_lt h.ob hq).1), own_heap h.oa fun g _ hq ho' => (hg.block g (heap_lt ho') (fun e => h.ne g hq e.symm)).trans ho', by rw [List.reverse_append]; exact ho, fun g h1 h2 => by
    rcases hn g h2 with e | e
    · exact h.ne g h1 e
    · have := (own_lt h.oa h1).2
      omega⟩
end
/-- The operation's box, and the literals. -/
structure Bo (bx : Nat) (x y : Int) (wx : World) : Prop where
  h : wx.heap[bx]? = some (.cells #[.int .i64 1, .int .i64 x, .int .i64 y] 36 (0, 0))
section
variable {bx : Nat} {x y : Int} {wx wy : World}
theorem Bo.all (h : Bo bx x y wx) : Bo bx x y wx ∧ wx.cell? ⟨bx, 0, none⟩ = some (.int .i64 1) ∧ wx.cell? ⟨bx, 1, none⟩ = some (.int .i64 x) ∧ wx.cell? ⟨bx, 2, none⟩ = some (.int .i64 y) := ⟨h, trio_at h.h⟩
theorem Bo.drew (h : Bo bx x y wx) : Bo bx x y wx.drew := ⟨h.h⟩
theorem Bo.alloc (h : Bo bx x y wx) (o : Obj) : Bo bx x y (wx.alloc o) := ⟨heap_step h.h (below_alloc _ _)⟩
theorem Bo.grown {r : Option Nat} (h : Bo bx x y wx) (hg : wx.grownBy wy r) (hr : ¬ some bx = r) : Bo bx x y wy := ⟨(hg.block bx (heap_lt h.h) hr).trans h.h⟩
end
theorem ins_front (xs : List TmT) (v0 : TmT) (n c vb base : Nat) (w : World) (sa : Option Addr) (HV : Hid (w.heap[vb]? = some (.cells #[.int .i64 v0.k, .int .i64 v0.i, .int .i64 v0.n] 36 (0, 0)))) (H1 : Hid (xs.length = n)) (hn : n ≤ 5864062014634) (hbase : base ≤ w.heap.size) (HO : Hid (w.ownsRow base 36 3 (.slice sa n c) n (shT.flat xs))) (hvb : ∀ g, (Value.slice sa n c).ownBlock = some g → vb ≠ g) :
    Calls Try.prog 15 #[.slice sa n c, .int .i64 0, .slice (some ⟨vb, 0, none⟩) 1 1] w fun e w' => InsOut shT base 36 w (.slice sa n c) (v0 :: xs) (n + 1) e w' :=
  inst_any xs v0 n c 0 vb base w sa HV H1 hn hbase HO (Nat.zero_le _) hvb
/-- A call of Play without an error: what fired, in a row of the call's own. -/
def FirOwn (w : World) (n F N : Nat) (fd : List FiT) (e : Ending) (w' : World) : Prop := ∃ ra fa fc, e = .returned (.tuple #[.slice ra n n, .slice fa F fc, .int .i64 (N : Int), .int .i64 0]) ∧ w'.ownsRow w.heap.size 31 2 (.slice fa F fc) F (shF.flat fd) ∧ Below w.heap.size w w'
theorem play_firedO {ops : List TmT} {n F N : Nat} {fd : List FiT} (hm : ops.length = n) (hn : n ≤ 400) (HW : ∀ o ∈ ops, WfI o.i) (hfd : (runT newT ops).fired = fd) (hF : fd.length = F) (hN : (runT newT ops).set.length = N) (w : World) (ad : Option Addr) (cap : Nat) (HA : Hid (shT.At w ad cap ops)) : Calls Try.prog 9 #[.slice ad n cap] w (FirOwn w n F N fd) := by
  refine (play_own w HA (Lib.hid hm) hn (Lib.hid HW)).mono ?_
  rintro e w' ⟨E, fa, fc, rfl, _, h2, h3⟩
  rw [hfd, hN, hF]
  rw [hfd, hF] at h2
  exact ⟨_, fa, fc, rfl, h2, h3⟩
/-- min of three. -/
theorem run_min3 (P : Program) (ts : Array TypeId) (t : TypeId) (p q r v : Int) (hv : min (min p q) r = v) (w : World) : (Builtin.min_ ts t #[.int .i64 p, .int .i64 q, .int .i64 r]).run P w = .ok (.int .i64 v) w := by
  have e : ∀ x y : Int, (if y < x then y else x) = min x y := fun x y => by
    rw [Int.min_def]
    split <;> split <;> omega
  simp [Builtin.min_, Builtin.min2, e, hv]
theorem contains_Q {ad : Option Addr} {cap n : Nat} {f : Nat → Int} (v : Int) (w : World) (HA : Hid (IntAt w ad cap n f)) (hn : n ≤ 9223372036854775807) (q : Bool) (hq : Hid (q = true ↔ ∃ i, i < n ∧ f i = v)) :
    Calls Try.prog 16 #[.slice ad n cap, .int .i64 v] w fun e w' => e = .returned (.bool q) ∧ ∃ r, w' = w.drewN r := (contains_N v w HA hn q hq).mono fun _ _ h => ⟨h.1, 0, h.2.symm⟩
theorem fnL_take {l : List Int} {k i : Nat} (h : i < k) : fnL (l.take k) i = l.getD i 0 := by
  unfold fnL
  rw [List.getD_eq_getElem?_getD, List.getD_eq_getElem?_getD, List.getElem?_take_of_lt h]
section
variable {a1 a2 : Option Addr} {c1 c2 n m : Nat} {ids tks : List Int}
set_option maxHeartbeats 4000000 in
set_option maxRecDepth 100000 in
theorem order_any (more : Int) (w : World) (H1 : Hid (shI.At w a1 c1 ids)) (hn : Hid (ids.length = n)) (hc1 : n ≤ c1) (HW : Hid (∀ x ∈ ids, WfI x)) (H2 : Hid (shI.At w a2 c2 tks)) (hm : Hid (tks.length = m)) (hn6 : n ≤ 9223372036854775807) (hm6 : m ≤ 9223372036854775807) (M : Nat) (hM : M = min (min n m) 100) :
    Calls Try.prog 7 #[.slice a1 n c1, .slice a2 m c2, .int .i64 more] w fun e w' => e = .returned (.bool true) ∧ Below w.heap.size w w' := by
  obtain ⟨i0, hi, hz0, hz1, hz2⟩ := info_parts info_tm
  have hMn : M ≤ n := by omega
  have hMm : M ≤ m := by omega
  have hM1 : M ≤ 100 := by omega
  have hMi : min (min (n : Int) (m : Int)) 100 = (M : Int) := by omega
  have hmn := run_min3 Try.prog #[3, 3, 3] 3 (n : Int) (m : Int) 100 (M : Int) hMi
  clear hMi hM
  go_enter Try.func7, Try.ntmps7
  go_wp2_with (first
    | (go_at_call 13; (with_reducible refine (alive11_N _).mono ?_); rintro e w1 ⟨rfl, hb⟩; have B1 := Lib.hid hb; have A1 := Lib.hid (H1.out.step hb); have A2 := Lib.hid (H2.out.step hb); clear hb)
    | fail)
  go_loopw [7, 8, 27] (fun va vb i wr => ∃ (k : Nat) (ra : Option Addr) (rc : Nat) (sa : Option Addr) (sc : Nat), k ≤ M ∧ i = .int .i64 k ∧ va = .slice ra k rc ∧ vb = .slice sa k sc ∧ Hid (LpO w1 wr va vb k (opL ids tks k)) ∧ Hid (∀ a b, a < b → b < k → ¬ ids.getD a 0 = ids.getD b 0)) (fun _ _ i _ => M - (intOf i).toNat)
  case atStart => exact ⟨0, none, 0, none, 0, Nat.zero_le _, rfl, rfl, rfl, Lib.hid ⟨Below.refl _ _, World.ownsRow_nil _ _ _ _, World.ownsRow_nil _ _ _ _, (fun g hg => by cases hg)⟩, Lib.hid (fun a b _ hb => by omega)⟩
  case round =>
    obtain ⟨k, ra, rc, sa, sc, hk, rfl, rfl, rfl, HL, HD⟩ := hrel
    by_cases hlt : k < M
    · have hkM : (k : Int) < (M : Int) := by omega
      have hkn : (k : Int) < (n : Int) := by omega
      have hkm : (k : Int) < (m : Int) := by omega
      have hkc : (k : Int) ≤ (c1 : Int) := by omega
      have hk0 : (0 : Int) ≤ (k : Int) := by omega
      have hg1 : ids[k]? = some (ids.getD k 0) := by rw [List.getD_eq_getElem?_getD, List.getElem?_eq_getElem (by rw [hn.out]; omega)]; rfl
      have hg2 : tks[k]? = some (tks.getD k 0) := by rw [List.getD_eq_getElem?_getD, List.getElem?_eq_getElem (by rw [hm.out]; omega)]; rfl
      obtain ⟨x, hx⟩ : ∃ x, ids.getD k 0 = x := ⟨_, rfl⟩
      obtain ⟨y, hy⟩ : ∃ y, tks.getD k 0 = y := ⟨_, rfl⟩
      rw [hx] at hg1
      rw [hy] at hg2
      have T1 := A1.out.step HL.out.b
      have T2 := A2.out.step HL.out.b
      obtain ⟨b1, o1, rfl, hb1, e1⟩ := at_int T1 hg1
      obtain ⟨b2, o2, rfl, hb2, e2⟩ := at_int T2 hg2
      obtain ⟨q, hq⟩ : ∃ q : Bool, q = true ↔ ∃ i, i < k ∧ fnL (ids.take k) i = x := ⟨decide (∃ i, i < k ∧ fnL (ids.take k) i = x), decide_eq_true_iff⟩
      have HQ := Lib.hid hq
      have hk9 : k ≤ 9223372036854775807 := by omega
      have hkl : (ids.take k).length = k := by rw [List.length_take, hn.out]; omega
      have CQ := Lib.hid (fun r : Nat => contains_Q (cap := c1) x (wr.drewN r) (Lib.hid (IntAt.of (Shape.At.take (T1.step (below_drewN' wr r)) k) hkl)) hk9 q HQ)
      have BZ := Lib.hid (pstep B1.out HL.out.b)
      have hb1r := hb1
      have hb2r := hb2
      clear hq hkl hg1 hg2
      go_upto_region 7 with fail
      go_cut [37] from 30 to 36 (fun b wy => b = .bool q ∧ Hid (Below wr.heap.size wr wy))
      case first =>
        go_quiet ((go_at_call 16; exact Calls.quiet_of (CQ.out _)))
        go_wp2_with fail
        go_meet
        exact ⟨rfl, Lib.hid (below_drewN (Below.refl _ _) _)⟩
      case rest =>
        obtain ⟨rfl, HZ⟩ := hcut
        cases q with
        | true =>
          go_wp2_with fail
          go_ret
          exact ⟨rfl, pstep BZ.out HZ.out⟩
        | false =>
          have hno : ∀ a b, a < b → b < k + 1 → ¬ ids.getD a 0 = ids.getD b 0 := fun a b hab hb he => by
            by_cases e : b = k
            · subst e
              have := HQ.out.2 ⟨a, hab, by rw [fnL_take hab, he, hx]⟩
              cases this
            · exact HD.out a b hab (by omega) he
          have HD2 := Lib.hid hno
          have LC := Lib.hid (HL.out.step HZ.out)
          have f1 := (HZ.out.cell (p := ⟨b1, o1 + k, none⟩) hb1).trans e1
          have f2 := (HZ.out.cell (p := ⟨b2, o2 + k, none⟩) hb2).trans e2
          have hz1 := Nat.lt_of_lt_of_le hb1 HZ.out.size
          have hz2 := Nat.lt_of_lt_of_le hb2 HZ.out.size
          clear hno CQ HQ HD hb1 hb2 hb1r hb2r e1 e2
          go_upto_region 9 with fail
          go_cut [10] from 38 to 46 (fun p wy => ∃ bx, p = .pointer (some ⟨bx, 0, none⟩) ∧ Hid (LpO w1 wy (.slice ra k rc) (.slice sa k sc) k (opL ids tks k)) ∧ Hid (¬ some bx = (Value.slice ra k rc).ownBlock ∧ ¬ some bx = (Value.slice sa k sc).ownBlock) ∧ Hid (wy.heap[bx]? = some (.cells #[.int .i64 1, .int .i64 x, .int .i64 y] 36 (0, 0))))
          case first =>
            go_region
            all_goals go_wp2_with fail
            all_goals go_meet
            all_goals exact ⟨wc.heap.size, rfl, Lib.hid (LC.out.step (below_alloc wc _).drew), Lib.hid ⟨fun e => by have := (own_lt LC.out.oa e.symm).2; omega, fun e => by have := (own_lt LC.out.ob e.symm).2; omega⟩, Lib.hid (heap_alloc_new wc _)⟩
          case rest =>
            clear LC f1 f2 hz1 hz2 HZ
            obtain ⟨bx, rfl, HL2, HNB, HBX⟩ := hcut
            have HLK : Hid ((opL ids tks k).length = k) := Lib.hid (opL_len _ _ _)
            have HLR : Hid ((opL ids tks k).reverse.length = k) := Lib.hid (by rw [List.length_reverse, opL_len])
            have hk6 : k ≤ 5864062014634 := by omega
            have S0 : Bo bx x y wc := ⟨HBX.out⟩
            have S1 := S0.drew
            have SA := (S0.alloc (.cells #[.int .i64 1, .int .i64 x, .int .i64 y] 36)).drew
            have SB := ((S0.alloc (.cells #[.int .i64 1, .int .i64 x, .int .i64 y] 36)).alloc (.cells #[.int .i64 1, .int .i64 x, .int .i64 y] 36)).drew
            have LA := Lib.hid (HL2.out.step (below_alloc wc (.cells #[.int .i64 1, .int .i64 x, .int .i64 y] 36)).drew)
            have LB := Lib.hid (HL2.out.step (below_two wc (.cells #[.int .i64 1, .int .i64 x, .int .i64 y] 36) (.cells #[.int .i64 1, .int .i64 x, .int .i64 y] 36)).drew)
            have NA : Hid (shT.At (wc.alloc (.cells #[.int .i64 1, .int .i64 x, .int .i64 y] 36)).drew (some ⟨wc.heap.size, 0, none⟩) 1 [⟨1, x, y⟩]) := Lib.hid (tm_oneAt wc ⟨1, x, y⟩ 1)
            have HV0 : Hid (((wc.alloc (.cells #[.int .i64 1, .int .i64 x, .int .i64 y] 36)).alloc (.cells #[.int .i64 1, .int .i64 x, .int .i64 y] 36)).drew.heap[wc.heap.size]? = some (.cells #[.int .i64 1, .int .i64 x, .int .i64 y] 36 (0, 0))) := Lib.hid (heap_alloc2_old wc _ _)
            have HV1 : Hid (((wc.alloc (.cells #[.int .i64 1, .int .i64 x, .int .i64 y] 36)).alloc (.cells #[.int .i64 1, .int .i64 x, .int .i64 y] 36)).drew.heap[wc.heap.size + 1]? = some (.cells #[.int .i64 1, .int .i64 x, .int .i64 y] 36 (0, 0))) := Lib.hid (heap_alloc2_new wc _ _)
            have NB : Hid (shT.At ((wc.alloc (.cells #[.int .i64 1, .int .i64 x, .int .i64 y] 36)).alloc (.cells #[.int .i64 1, .int .i64 x, .int .i64 y] 36)).drew (some ⟨wc.heap.size, 0, none⟩) 1 [⟨1, x, y⟩]) := Lib.hid (Shape.At.lit (S := shT) [⟨1, x, y⟩] HV0.out)
            have NC : Hid (shT.At ((wc.alloc (.cells #[.int .i64 1, .int .i64 x, .int .i64 y] 36)).alloc (.cells #[.int .i64 1, .int .i64 x, .int .i64 y] 36)).drew (some ⟨wc.heap.size + 1, 0, none⟩) 1 [⟨1, x, y⟩]) := Lib.hid (Shape.At.lit (S := shT) [⟨1, x, y⟩] HV1.out)
            go_upto_region 10 with fail
            go_region_held3 (fun w' => Bo bx x y w' ∧ w'.cell? ⟨bx, 0, none⟩ = some (.int .i64 1) ∧ w'.cell? ⟨bx, 1, none⟩ = some (.int .i64 x) ∧ w'.cell? ⟨bx, 2, none⟩ = some (.int .i64 y))
                (first | (refine Bo.all ?_; with_reducible assumption) | (refine Bo.all (Bo.alloc ?_ _); with_reducible assumption) | (refine Bo.all (Bo.drew (Bo.alloc ?_ _)); with_reducible assumption) | (refine Bo.all (Bo.drew (Bo.alloc (Bo.alloc ?_ _) _)); with_reducible assumption))
                (first
                | (refine step_append_n shT rfl _ _ 22 rfl w1.heap.size 36 i0 _ 24 Try.underlying22 hi hz0 hz1 hz2 rfl (.slice ra k rc) k (opL ids tks k) [⟨1, x, y⟩] HLK rfl LA.out.oa (some ⟨wc.heap.size, 0, none⟩) 1 1 rfl (Lib.hid rfl) NA.out (by unfold maxLen; omega) (by omega) LA.out.b.size ?_; intro ra5 rc5 w5 own5 grow5 new5; have TT := SA.grown grow5 HNB.out.1; have M1 := Lib.hid (LA.out.app own5 grow5 new5);  clear own5 grow5 new5)
                | (refine step_append_n shT rfl _ _ 22 rfl w1.heap.size 36 i0 _ 24 Try.underlying22 hi hz0 hz1 hz2 rfl (.slice ra k rc) k (opL ids tks k) [⟨1, x, y⟩] HLK rfl LB.out.oa (some ⟨wc.heap.size, 0, none⟩) 1 1 rfl (Lib.hid rfl) NB.out (by unfold maxLen; omega) (by omega) LB.out.b.size ?_; intro ra5 rc5 w5 own5 grow5 new5; have TT := SB.grown grow5 HNB.out.1; have M2 := Lib.hid (LB.out.app own5 grow5 new5); have V2 : Hid (w5.heap[wc.heap.size + 1]? = some (.cells #[.int .i64 1, .int .i64 x, .int .i64 y] 36 (0, 0))) := Lib.hid ((grow5.block _ (by simp) (fun e => by have := (own_lt HL2.out.oa e.symm).2; omega)).trans HV1.out); clear own5 grow5 new5)
                | (refine step_append_n shT rfl _ _ 22 rfl w1.heap.size 36 i0 _ 24 Try.underlying22 hi hz0 hz1 hz2 rfl (.slice ra k rc) k (opL ids tks k) [⟨1, x, y⟩] HLK rfl LB.out.oa (some ⟨wc.heap.size + 1, 0, none⟩) 1 1 rfl (Lib.hid rfl) NC.out (by unfold maxLen; omega) (by omega) LB.out.b.size ?_; intro ra5 rc5 w5 own5 grow5 new5; have TT := SB.grown grow5 HNB.out.1; have M3 := Lib.hid (LB.out.app own5 grow5 new5); have V3 : Hid (w5.heap[wc.heap.size]? = some (.cells #[.int .i64 1, .int .i64 x, .int .i64 y] 36 (0, 0))) := Lib.hid ((grow5.block _ (by simp; omega) (fun e => by have := (own_lt HL2.out.oa e.symm).2; omega)).trans HV0.out); clear own5 grow5 new5)
                | (go_at_call 15; (with_reducible refine (ins_front (opL ids tks k).reverse ⟨1, x, y⟩ k sc (w5.heap.size) w1.heap.size _ sa (Lib.hid (heap_alloc_new w5 (.cells #[.int .i64 1, .int .i64 x, .int .i64 y] 36))) HLR hk6 (M1.out.step (below_alloc w5 (.cells #[.int .i64 1, .int .i64 x, .int .i64 y] 36))).b.size (Lib.hid (M1.out.step (below_alloc w5 (.cells #[.int .i64 1, .int .i64 x, .int .i64 y] 36))).ob) (fun g hg e => by have := (own_lt M1.out.ob hg).2; omega)).mono ?_); rintro e w7 ⟨ra7, rc7, rfl, own7, grow7, new7⟩; have TB : Bo bx x y w7 := (TT.alloc _).grown grow7 HNB.out.2; have L7 := Lib.hid ((M1.out.step (below_alloc w5 (.cells #[.int .i64 1, .int .i64 x, .int .i64 y] 36))).ins own7 grow7 new7); clear own7 grow7 new7)
                | (go_at_call 15; (with_reducible refine (ins_front (opL ids tks k).reverse ⟨1, x, y⟩ k sc (wc.heap.size + 1) w1.heap.size _ sa V2 HLR hk6 M2.out.b.size (Lib.hid M2.out.ob) (fun g hg e => by have := (own_lt HL2.out.ob hg).2; omega)).mono ?_); rintro e w7 ⟨ra7, rc7, rfl, own7, grow7, new7⟩; have TB : Bo bx x y w7 := TT.grown grow7 HNB.out.2; have L7 := Lib.hid (M2.out.ins own7 grow7 new7); clear own7 grow7 new7)
                | (go_at_call 15; (with_reducible refine (ins_front (opL ids tks k).reverse ⟨1, x, y⟩ k sc (wc.heap.size) w1.heap.size _ sa V3 HLR hk6 M3.out.b.size (Lib.hid M3.out.ob) (fun g hg e => by have := (own_lt HL2.out.ob hg).2; omega)).mono ?_); rintro e w7 ⟨ra7, rc7, rfl, own7, grow7, new7⟩; have TB : Bo bx x y w7 := TT.grown grow7 HNB.out.2; have L7 := Lib.hid (M3.out.ins own7 grow7 new7); clear own7 grow7 new7)
                | fail)
            all_goals go_wp2_with fail
            all_goals go_roundw
            all_goals first
              | (simp [intOf]; omega)
              | skip
            all_goals exact ⟨k + 1, _, _, _, _, by omega, by go_num, rfl, rfl, Lib.hid (by rw [opL_next, hx, hy]; exact L7.out), HD2⟩
    · obtain rfl : k = M := by omega
      have HLK : Hid ((opL ids tks k).length = k) := Lib.hid (opL_len _ _ _)
      have HLR : Hid ((opL ids tks k).reverse.length = k) := Lib.hid (by rw [List.length_reverse, opL_len])
      have HLKt : Hid ((opL ids tks k ++ [(⟨3, 0, more⟩ : TmT)]).length = k + 1) := Lib.hid (by rw [List.length_append, opL_len]; rfl)
      have HLRt : Hid (((opL ids tks k).reverse ++ [(⟨3, 0, more⟩ : TmT)]).length = k + 1) := Lib.hid (by rw [List.length_append, HLR.out]; rfl)
      have h0w : WfI 0 := by unfold WfI; decide
      have hwl : ∀ o ∈ opL ids tks k, WfI o.i := fun o ho => by
        obtain ⟨j, hj, e⟩ := opL_mem ho
        rw [e]
        refine HW.out _ ?_
        rw [List.getD_eq_getElem?_getD, List.getElem?_eq_getElem (by rw [hn.out]; omega)]
        exact List.getElem_mem _
      have hw1 : ∀ o ∈ opL ids tks k ++ [(⟨3, 0, more⟩ : TmT)], WfI o.i := fun o ho => by
        rcases List.mem_append.1 ho with h | h
        · exact hwl o h
        · simp only [List.mem_cons, List.not_mem_nil, or_false] at h
          rw [h]; exact h0w
      have hw2 : ∀ o ∈ (opL ids tks k).reverse ++ [(⟨3, 0, more⟩ : TmT)], WfI o.i := fun o ho => by
        rcases List.mem_append.1 ho with h | h
        · exact hwl o (List.mem_reverse.1 h)
        · simp only [List.mem_cons, List.not_mem_nil, or_false] at h
          rw [h]; exact h0w
      have hrev : runT newT ((opL ids tks k).reverse ++ [(⟨3, 0, more⟩ : TmT)]) = runT newT (opL ids tks k ++ [(⟨3, 0, more⟩ : TmT)]) := by
        rw [run_append, run_append, adds_rev (opL_k _ _ _) (opL_pw HD.out)]
      obtain ⟨fd, hfd⟩ : ∃ fd, (runT newT (opL ids tks k ++ [(⟨3, 0, more⟩ : TmT)])).fired = fd := ⟨_, rfl⟩
      obtain ⟨N, hN⟩ : ∃ N, (runT newT (opL ids tks k ++ [(⟨3, 0, more⟩ : TmT)])).set.length = N := ⟨_, rfl⟩
      obtain ⟨F, hF⟩ : ∃ F, fd.length = F := ⟨_, rfl⟩
      have hF9 : F ≤ 9223372036854775807 := by
        have := (bnd_run (ops := opL ids tks k ++ [(⟨3, 0, more⟩ : TmT)]) bnd_new hw1).cnt
        rw [HLKt.out, hfd, hF] at this
        omega
      have HP1 := Lib.hid (play_firedO HLKt.out (by omega) hw1 hfd hF hN)
      have HP2 := Lib.hid (play_firedO (fd := fd) (F := F) (N := N) HLRt.out (by omega) hw2 (by rw [hrev]; exact hfd) hF (by rw [hrev]; exact hN))
      have HF := Lib.hid hF
      have LY := Lib.hid (HL.out.step (below_two wr (.cells #[.int .i64 3, .int .i64 0, .int .i64 more] 36) (.cells #[.int .i64 3, .int .i64 0, .int .i64 more] 36)))
      have NY : Hid (shT.At ((wr.alloc (.cells #[.int .i64 3, .int .i64 0, .int .i64 more] 36)).alloc (.cells #[.int .i64 3, .int .i64 0, .int .i64 more] 36)) (some ⟨wr.heap.size + 1, 0, none⟩) 1 [⟨3, 0, more⟩]) := Lib.hid (Shape.At.lit (S := shT) [⟨3, 0, more⟩] (heap_alloc2_new wr _ _))
      have XY := heap_alloc2_old wr (.cells #[.int .i64 3, .int .i64 0, .int .i64 more] 36) (.cells #[.int .i64 3, .int .i64 0, .int .i64 more] 36)
      have hbw : ¬ some wr.heap.size = (Value.slice ra k rc).ownBlock := fun e => by have := (own_lt HL.out.oa e.symm).2; omega
      have hbw2 : ¬ some wr.heap.size = (Value.slice sa k sc).ownBlock := fun e => by have := (own_lt HL.out.ob e.symm).2; omega
      have HBW := Lib.hid hbw
      have HBW2 := Lib.hid hbw2
      have HXY := Lib.hid XY
      clear hwl hw1 hw2 hrev hfd hN hF h0w hbw hbw2 XY hlt hk
      go_wp2_with (first
        | (at_builtin; refine wpList_append_n shT rfl _ _ 22 rfl w1.heap.size 36 i0 _ 24 Try.underlying22 hi hz0 hz1 hz2 rfl (.slice ra k rc) k (opL ids tks k) [⟨3, 0, more⟩] HLK rfl LY.out.oa (some ⟨wr.heap.size + 1, 0, none⟩) 1 1 rfl (Lib.hid rfl) NY.out (by unfold maxLen; omega) (by omega) LY.out.b.size ?_; intro ra5 rc5 w5 own5 grow5 new5; have M5 := Lib.hid (LY.out.app own5 grow5 new5); have P5 := Lib.hid (Shape.At.own (S := shT) own5 HLKt.out); have X5 := Lib.hid ((grow5.block wr.heap.size (by simp; omega) HBW.out).trans HXY.out); clear own5 grow5 new5)
        | (go_at_call 9; (with_reducible refine (HP1.out _ ra5 rc5 P5).mono ?_); rintro e w6 ⟨rb6, fa, fc, rfl, hf, hb⟩; have B6 := Lib.hid (hb.trans ((below_alloc w6 (.cells #[.int .i64 3, .int .i64 0, .int .i64 more] 36)).mono hb.size)); have M6 := Lib.hid (M5.out.step B6.out); have X6' := heap_step X5.out hb; have X6 := trio_at X6'; have Z6 := heap_lt X6'; have F6 := Lib.hid (own_step hf (below_alloc w6 (.cells #[.int .i64 3, .int .i64 0, .int .i64 more] 36))); have N6 : Hid (shT.At (w6.alloc (.cells #[.int .i64 3, .int .i64 0, .int .i64 more] 36)) (some ⟨w6.heap.size, 0, none⟩) 1 [⟨3, 0, more⟩]) := Lib.hid (tm_oneAt w6 ⟨3, 0, more⟩ 1); clear hf hb X6')
        | (at_builtin; refine wpList_append_n shT rfl _ _ 22 rfl w1.heap.size 36 i0 _ 24 Try.underlying22 hi hz0 hz1 hz2 rfl (.slice sa k sc) k (opL ids tks k).reverse [⟨3, 0, more⟩] HLR rfl M6.out.ob (some ⟨w6.heap.size, 0, none⟩) 1 1 rfl (Lib.hid rfl) N6.out (by unfold maxLen; omega) (by omega) M6.out.b.size ?_; intro ra7 rc7 w7 own7 grow7 _; have P7 := Lib.hid (Shape.At.own (S := shT) own7 HLRt.out); have B7 := Lib.hid (M6.out.b.grown grow7 M6.out.b.size (fun _ hq => (own_lt M6.out.ob hq).1)); have F7 : Hid (w7.ownsRow w5.heap.size 31 2 (.slice fa F fc) F (shF.flat fd)) := Lib.hid (own_heap F6.out fun g _ hq ho => (grow7.block g (heap_lt ho) (fun e => own_two F6.out M6.out.ob (by decide) g hq e.symm)).trans ho); clear own7 grow7)
        | (go_at_call 9; (with_reducible refine (HP2.out _ ra7 rc7 P7).mono ?_); rintro e w8 ⟨rb8, ga, gc, rfl, hf, hb⟩; have B8 := Lib.hid (pstep B7.out hb); have F8 := Lib.hid (Shape.At.own (S := shF) (own_step F7.out hb) HF.out); have G8 := Lib.hid (Shape.At.own (S := shF) hf HF.out); clear hf hb)
        | (go_at_call 12; (with_reducible refine (equalF _ HF F8 G8 hF9).mono ?_); rintro e w9 ⟨rfl, hb⟩; have B9 := Lib.hid (pstep B1.out (pstep B8.out hb)); clear hb)
        | fail)
      go_ret
      exact ⟨rfl, B9.out⟩
end
theorem wheelOrder_walk (v u r : Value) (w : World) (h : ArgIds w v) (h2 : ArgIds w u) (h3 : ArgInt w r) : Calls Try.prog 7 #[v, u, r] w fun e w' => e = .returned (.bool true) ∧ Below w.heap.size w w' := by
  obtain ⟨a1, c1, l, rfl, hA, hW, hn, hc⟩ := h
  obtain ⟨a2, c2, l2, rfl, hA2, _, hn2, _⟩ := h2
  obtain ⟨m, rfl, _⟩ := h3
  exact order_any m w (Lib.hid hA) (Lib.hid rfl) hc (Lib.hid hW) (Lib.hid hA2) (Lib.hid rfl) hn hn2 _ rfl
end Go.Proofs.Ytnnphmpodcmmoaa
