/- The walk of RankApart. -/
import Derived.Test.YtcnnimhdnmmaoaaRnkJ
import Derived.Deep.RegionHeld3
import Derived.Lib.SliceRun
namespace Go.Proofs.Ytcnnimhdnmmaoaa
open Go.RowKit

theorem info_op : (Try.prog.info? 35).map (fun i => (i.zero, i.size, i.bytes)) = some (some (.agg #[.int .i64 0, .int .i64 0, .int .i64 0]), 3, 24) := by kernel_rfl
set_option maxHeartbeats 1000000 in
set_option maxRecDepth 100000 in
theorem clone_O (xs : List RopT) (sa : Option Addr) (n c : Nat) (w : World) (H1 : Hid (xs.length = n)) (HA : Hid (shO.At w sa c xs)) (hn : n ≤ 5864062014634) :
    Calls Try.prog 16 #[.slice sa n c] w fun e w' => ∃ ra rc, e = .returned (.slice ra n rc) ∧ w'.ownsRow w.heap.size 35 3 (.slice ra n rc) n (shO.flat xs) ∧ Below w.heap.size w w' := by
  obtain ⟨i0, hi, hz0, hz1, hz2⟩ := info_parts' info_op
  have qn : ∀ (w : World) (a : Option Addr) (n c n' c' : Nat), (binOp .eql 22 (.slice a n c) (.slice none n' c')).run Try.prog w = .ok (.bool a.isNone) w := fun w a n c n' c' => Lib.run_eql_slice_nil w _ _ a n c n' c' Try.underlying22
  cases sa with
  | none =>
    obtain ⟨rfl, hx⟩ := HA.out.1 rfl
    have hn0 : n = 0 := by rw [← H1.out, hx]; rfl
    subst hn0 hx
    clear HA H1
    go_enter Try.func16, Try.ntmps16
    go_wp2_with fail
    go_ret
    exact ⟨_, _, rfl, World.ownsRow_nil _ _ _ _, Below.refl _ _⟩
  | some a =>
    have hown : (w.alloc (.cells #[] 35)).ownsRow w.heap.size 35 3 (.slice (some ⟨w.heap.size, 0, none⟩) 0 0) 0 [] := World.ownsRow_made w #[] 0 (Nat.le_refl _) (by decide) rfl
    have HO := Lib.hid hown
    have HA2 := Lib.hid (HA.out.step (below_alloc w (.cells #[] 35)))
    clear hown
    go_enter Try.func16, Try.ntmps16
    go_wp2_with (first
      | (at_builtin; refine wpList_append_at shO rfl _ _ 22 rfl w.heap.size 35 i0 _ 24 Try.underlying22 hi hz0 hz1 hz2 rfl (.slice (some ⟨w.heap.size, 0, none⟩) 0 0) [] xs rfl HO.out (some a) n c rfl H1 HA2.out ?h63 ?hby ?hba ?_)
      | fail)
    case h63 => simp; unfold maxLen; omega
    case hby => simp; omega
    case hba => simp
    intro ra rc w3 own3 grow3 _
    have B3 : Below w.heap.size w w3 := (below_alloc w _).grown grow3 (by simp) (fun k hk => by simp [Value.ownBlock] at hk; omega)
    have O3 := Lib.hid own3
    clear own3 grow3
    go_wp2_with fail
    go_ret
    exact ⟨_, _, rfl, O3.out, B3⟩
/-- The operation's box, and what was there before. -/
structure Bx (w1 : World) (bx : Nat) (kind th lk : Int) (wx : World) : Prop where
  b : Below w1.heap.size w1 wx
  o : wx.heap[bx]? = some (.cells #[.int .i64 kind, .int .i64 th, .int .i64 lk] 35 (0, 0))
  l : bx < w1.heap.size
section
variable {w1 wx wy : World} {b : Nat} {kind th lk : Int}
theorem Bx.step (h : Bx w1 b kind th lk wx) (hb : Below wx.heap.size wx wy) : Bx w1 b kind th lk wy := ⟨pstep h.b hb, heap_step h.o hb, h.l⟩
theorem Bx.all (h : Bx w1 b kind th lk wx) : Bx w1 b kind th lk wx ∧ wx.cell? ⟨b, 0, none⟩ = some (.int .i64 kind) ∧ wx.cell? ⟨b, 1, none⟩ = some (.int .i64 th) ∧ wx.cell? ⟨b, 2, none⟩ = some (.int .i64 lk) := ⟨h, trio_at h.o⟩
theorem Bx.drew (h : Bx w1 b kind th lk wx) : Bx w1 b kind th lk wx.drew := ⟨h.b.drew, h.o, h.l⟩
theorem Bx.alloc (h : Bx w1 b kind th lk wx) (o : Obj) : Bx w1 b kind th lk (wx.alloc o) := h.step (below_alloc _ _)
theorem Bx.grown {M n : Nat} {e size : Nat} {v : Value} {xs : List Value} (h : Bx w1 b kind th lk wx) (ho : wx.ownsRow M e size v n xs) (hM : w1.heap.size ≤ M) (hg : wx.grownBy wy v.ownBlock) : Bx w1 b kind th lk wy :=
  ⟨h.b.grown hg h.b.size (fun k hk => Nat.le_trans hM (own_lt ho hk).1), (hg.block _ (heap_lt h.o) (fun e => by have := (own_lt ho e.symm).1; have := h.l; omega)).trans h.o, h.l⟩
end
theorem op_lit (X : World) (kind th lk : Int) (cap : Nat) : shO.At (X.alloc (.cells #[.int .i64 kind, .int .i64 th, .int .i64 lk] 35)) (some ⟨X.heap.size, 0, none⟩) cap [⟨kind, th, lk⟩] :=
  Shape.At.lit (S := shO) [⟨kind, th, lk⟩] (heap_alloc_new X _)
set_option maxHeartbeats 4000000 in
set_option maxRecDepth 100000 in
theorem apart_bad {ad : Option Addr} {cap m : Nat} {ops : List RopT} (T L : Int) (rk : Bool) (kind th lk : Int) (w : World) (HA : Hid (shO.At w ad cap ops)) (HM : Hid (ops.length = m)) (hm : m ≤ 5864062014634) (HB : Hid (T < 1 ∨ 16 < T ∨ L < 1 ∨ 16 < L)) :
    Calls Try.prog 7 #[.int .i64 T, .int .i64 L, .bool rk, .slice ad m cap, .agg #[.int .i64 kind, .int .i64 th, .int .i64 lk]] w fun e w' => e = .returned (.bool true) ∧ Below w.heap.size w w' := by
  obtain ⟨i0, hi, hz0, hz1, hz2⟩ := info_parts' info_op
  have X0 : Bx (w.alloc (.cells #[.int .i64 kind, .int .i64 th, .int .i64 lk] 35)) w.heap.size kind th lk (w.alloc (.cells #[.int .i64 kind, .int .i64 th, .int .i64 lk] 35)) := ⟨Below.refl _ _, heap_alloc_new w _, by simp⟩
  have X1 := Lib.hid X0
  have HAF := Lib.hid (HA.out.step (below_alloc w (.cells #[.int .i64 kind, .int .i64 th, .int .i64 lk] 35)))
  have hm1 : Hid (([⟨kind, th, lk⟩] : List RopT).length = 1) := Lib.hid rfl
  have HM5 : Hid ((ops ++ [(⟨kind, th, lk⟩ : RopT)]).length = m + 1) := Lib.hid (by rw [List.length_append, HM.out]; rfl)
  clear X0
  go_enter Try.func7, Try.ntmps7
  go_upto_region 4 with (first
    | (go_at_call 15; (with_reducible refine (alive8_N _).mono ?_); rintro e w1 ⟨rfl, hb⟩; have X2 := Lib.hid (X1.out.step hb); have HA1 := Lib.hid (HAF.out.step hb); clear hb)
    | (go_at_call 9; (with_reducible refine (play_bad _ _ rk _ _ HB.out).mono ?_); rintro e wz ⟨rfl, rfl⟩; have X3 := X2; have HA2 := HA1)
    | fail)
  have Y0 : Bx w1 w.heap.size kind th lk w1 := ⟨Below.refl _ _, X3.out.o, heap_lt X3.out.o⟩
  have XD := Y0.drew
  have X3a := Y0.alloc (.cells #[.int .i64 kind, .int .i64 th, .int .i64 lk] 35)
  have X3b := (Y0.alloc (.cells #[.int .i64 kind, .int .i64 th, .int .i64 lk] 35)).drew
  have B02 := Lib.hid (pstep (below_alloc w (.cells #[.int .i64 kind, .int .i64 th, .int .i64 lk] 35)) X3.out.b)
  have HD1 := Lib.hid (HA2.out.step (Below.refl _ w1).drew)
  have HD2 := Lib.hid (HA2.out.step (below_alloc w1 (.cells #[.int .i64 kind, .int .i64 th, .int .i64 lk] 35)).drew)
  have FB0 := Lib.hid (op_lit w1 kind th lk 1)
  go_region_held3 (fun w' => Bx w1 w.heap.size kind th lk w' ∧ w'.cell? ⟨w.heap.size, 0, none⟩ = some (.int .i64 kind) ∧ w'.cell? ⟨w.heap.size, 1, none⟩ = some (.int .i64 th) ∧ w'.cell? ⟨w.heap.size, 2, none⟩ = some (.int .i64 lk))
    (first | (refine Bx.all ?_; with_reducible assumption) | (refine Bx.all (Bx.alloc ?_ _); with_reducible assumption) | (refine Bx.all (Bx.drew (Bx.alloc ?_ _)); with_reducible assumption) | (refine Bx.all (Bx.alloc (Bx.drew ?_) _); with_reducible assumption))
    (first
    | (go_at_call 16; (with_reducible refine (clone_O ops ad m cap _ HM HD1 hm).mono ?_); rintro e w4 ⟨ra, rc, rfl, own, hb⟩; have TT := Y0.drew.step hb; have SA := Lib.hid TT; have OA := Lib.hid (own_base (base' := w1.heap.size) own (Nat.le_refl _)); have hz4 : w1.heap.size ≤ w4.heap.size := (by have := hb.size; simpa using this); clear hb own)
    | (go_at_call 16; (with_reducible refine (clone_O ops ad m cap _ HM HD2 hm).mono ?_); rintro e w4 ⟨ra, rc, rfl, own, hb⟩; have TT := (Y0.alloc (.cells #[.int .i64 kind, .int .i64 th, .int .i64 lk] 35)).drew.step hb; have SB := Lib.hid TT; have OB := Lib.hid (own_base (base' := w1.heap.size) own (by simp)); have FB := Lib.hid ((FB0.out.step (Below.refl _ _).drew).step hb); have hz4 : w1.heap.size ≤ w4.heap.size := (by have := hb.size; simp at this; omega); clear hb own)
    | (refine step_append_n shO rfl _ _ 22 rfl w1.heap.size 35 i0 _ 24 Try.underlying22 hi hz0 hz1 hz2 rfl (.slice ra m rc) m ops [⟨kind, th, lk⟩] HM rfl (own_step OA.out (below_alloc w4 (.cells #[.int .i64 kind, .int .i64 th, .int .i64 lk] 35))) (some ⟨w4.heap.size, 0, none⟩) 1 1 rfl hm1 (op_lit w4 kind th lk 1) (by unfold maxLen; omega) (by omega) (by simp; omega) ?_; intro ra5 rc5 w5 own5 grow5 _; have TT := (SA.out.alloc (.cells #[.int .i64 kind, .int .i64 th, .int .i64 lk] 35)).grown (own_step OA.out (below_alloc w4 (.cells #[.int .i64 kind, .int .i64 th, .int .i64 lk] 35))) (Nat.le_refl _) grow5; have S5 := Lib.hid TT; have HA5 := Lib.hid (Shape.At.own (S := shO) own5 HM5.out); clear own5 grow5)
    | (refine step_append_n shO rfl _ _ 22 rfl w1.heap.size 35 i0 _ 24 Try.underlying22 hi hz0 hz1 hz2 rfl (.slice ra m rc) m ops [⟨kind, th, lk⟩] HM rfl OB.out (some ⟨w1.heap.size, 0, none⟩) 1 1 rfl hm1 FB.out (by unfold maxLen; omega) (by omega) hz4 ?_; intro ra5 rc5 w5 own5 grow5 _; have TT := SB.out.grown OB.out (Nat.le_refl _) grow5; have S5 := Lib.hid TT; have HA5 := Lib.hid (Shape.At.own (S := shO) own5 HM5.out); clear own5 grow5)
    | (go_at_call 9; (with_reducible refine (play_bad _ _ rk _ _ HB.out).mono ?_); rintro e w6 ⟨rfl, rfl⟩; have TT := S5.out; have B6 := Lib.hid (pstep B02.out S5.out.b))
    | fail)
  all_goals go_wp2_with fail
  all_goals go_ret
  all_goals exact ⟨rfl, B6.out⟩
set_option maxHeartbeats 4000000 in
set_option maxRecDepth 100000 in
theorem apart_ok {ad : Option Addr} {cap m : Nat} {ops : List RopT} (n K : Nat) (rk : Bool) (kind th lk : Int) (w : World) (HA : Hid (shO.At w ad cap ops)) (HM : Hid (ops.length = m)) (hm : m ≤ 5864062014634) (hn1 : 1 ≤ n) (hn2 : n ≤ 16) (hK1 : 1 ≤ K) (hK2 : K ≤ 16) :
    Calls Try.prog 7 #[.int .i64 n, .int .i64 K, .bool rk, .slice ad m cap, .agg #[.int .i64 kind, .int .i64 th, .int .i64 lk]] w fun e w' => e = .returned (.bool true) ∧ Below w.heap.size w w' := by
  obtain ⟨i0, hi, hz0, hz1, hz2⟩ := info_parts' info_op
  have X0 : Bx (w.alloc (.cells #[.int .i64 kind, .int .i64 th, .int .i64 lk] 35)) w.heap.size kind th lk (w.alloc (.cells #[.int .i64 kind, .int .i64 th, .int .i64 lk] 35)) := ⟨Below.refl _ _, heap_alloc_new w _, by simp⟩
  have X1 := Lib.hid X0
  have HAF := Lib.hid (HA.out.step (below_alloc w (.cells #[.int .i64 kind, .int .i64 th, .int .i64 lk] 35)))
  have hm1 : Hid (([⟨kind, th, lk⟩] : List RopT).length = 1) := Lib.hid rfl
  have hmm : m ≤ 17592186044416 := by omega
  have hmm1 : m + 1 ≤ 17592186044416 := by omega
  have HM5 : Hid ((ops ++ [(⟨kind, th, lk⟩ : RopT)]).length = m + 1) := Lib.hid (by rw [List.length_append, HM.out]; rfl)
  clear X0
  obtain ⟨⟨es, s⟩, hr⟩ : ∃ r, runK n K rk ops = r := ⟨_, rfl⟩
  obtain ⟨x, hx⟩ : ∃ x, errK n K rk s kind th lk = x := ⟨_, rfl⟩
  have HR := Lib.hid hr
  have HR2 : Hid (runK n K rk (ops ++ [⟨kind, th, lk⟩]) = (es ++ [x], newK x s kind th lk)) := Lib.hid (by rw [runK_snoc, hr]; exact stepK_eq hx)
  have hel : es.length = m := by have := runK_len n K rk ops; rw [hr, HM.out] at this; exact this
  have HEL : Hid ((es ++ [x])[m]? = some x) := Lib.hid (by rw [List.getElem?_append_right (Nat.le_of_eq hel), hel, Nat.sub_self]; rfl)
  have HX := Lib.hid hx
  obtain ⟨s2, hs2⟩ : ∃ s2, newK x s kind th lk = s2 := ⟨_, rfl⟩
  rw [hs2] at HR2
  have HS2 := Lib.hid hs2
  clear hr hx hel hs2
  go_enter Try.func7, Try.ntmps7
  go_upto_region 4 with (first
    | (go_at_call 15; (with_reducible refine (alive8_N _).mono ?_); rintro e w1 ⟨rfl, hb⟩; have X2 := Lib.hid (X1.out.step hb); have HA1 := Lib.hid (HAF.out.step hb); clear hb)
    | (go_at_call 9; (with_reducible refine (play_ok n K rk _ HA1 HM hmm hn1 hn2 hK1 hK2 es s HR).mono ?_); rintro e w2 ⟨E1, H1, T1, rfl, _, hH, hT, hb⟩; have X3 := Lib.hid (X2.out.step hb); have HA2 := Lib.hid (HA1.out.step hb); have HH := Lib.hid hH; have HT := Lib.hid hT; clear hH hT hb)
    | fail)
  have Y0 : Bx w2 w.heap.size kind th lk w2 := ⟨Below.refl _ _, X3.out.o, heap_lt X3.out.o⟩
  have XD := Y0.drew
  have X3a := Y0.alloc (.cells #[.int .i64 kind, .int .i64 th, .int .i64 lk] 35)
  have X3b := (Y0.alloc (.cells #[.int .i64 kind, .int .i64 th, .int .i64 lk] 35)).drew
  have B02 := Lib.hid (pstep (below_alloc w (.cells #[.int .i64 kind, .int .i64 th, .int .i64 lk] 35)) X3.out.b)
  have HD1 := Lib.hid (HA2.out.step (Below.refl _ w2).drew)
  have HD2 := Lib.hid (HA2.out.step (below_alloc w2 (.cells #[.int .i64 kind, .int .i64 th, .int .i64 lk] 35)).drew)
  have FB0 := Lib.hid (op_lit w2 kind th lk 1)
  go_cut [15, 16, 17, 18] from 33 (fun a b c d wy => ∃ E2 H2 T2, a = .slice (some ⟨E2, 0, none⟩) (m + 1) (m + 1) ∧ b = .slice (some ⟨H2, 0, none⟩) K K ∧ c = .slice (some ⟨T2, 0, none⟩) n n ∧ d = .int .i64 0 ∧ Hid (Bx w2 w.heap.size kind th lk wy) ∧ Hid (shI.At wy (some ⟨E2, 0, none⟩) (m + 1) (es ++ [x])) ∧ Hid (IntAt wy (some ⟨H2, 0, none⟩) K K s2.hold) ∧ Hid (IntAt wy (some ⟨T2, 0, none⟩) n n s2.wait))
  case first =>
    go_region_held3 (fun w' => Bx w2 w.heap.size kind th lk w' ∧ w'.cell? ⟨w.heap.size, 0, none⟩ = some (.int .i64 kind) ∧ w'.cell? ⟨w.heap.size, 1, none⟩ = some (.int .i64 th) ∧ w'.cell? ⟨w.heap.size, 2, none⟩ = some (.int .i64 lk))
      (first | (refine Bx.all ?_; with_reducible assumption) | (refine Bx.all (Bx.alloc ?_ _); with_reducible assumption) | (refine Bx.all (Bx.drew (Bx.alloc ?_ _)); with_reducible assumption) | (refine Bx.all (Bx.alloc (Bx.drew ?_) _); with_reducible assumption))
      (first
      | (go_at_call 16; (with_reducible refine (clone_O ops ad m cap _ HM HD1 hm).mono ?_); rintro e w4 ⟨ra, rc, rfl, own, hb⟩; have TT := Y0.drew.step hb; have SA := Lib.hid TT; have OA := Lib.hid (own_base (base' := w2.heap.size) own (Nat.le_refl _)); have hz4 : w2.heap.size ≤ w4.heap.size := (by have := hb.size; simpa using this); clear hb own)
      | (go_at_call 16; (with_reducible refine (clone_O ops ad m cap _ HM HD2 hm).mono ?_); rintro e w4 ⟨ra, rc, rfl, own, hb⟩; have TT := (Y0.alloc (.cells #[.int .i64 kind, .int .i64 th, .int .i64 lk] 35)).drew.step hb; have SB := Lib.hid TT; have OB := Lib.hid (own_base (base' := w2.heap.size) own (by simp)); have FB := Lib.hid ((FB0.out.step (Below.refl _ _).drew).step hb); have hz4 : w2.heap.size ≤ w4.heap.size := (by have := hb.size; simp at this; omega); clear hb own)
      | (refine step_append_n shO rfl _ _ 22 rfl w2.heap.size 35 i0 _ 24 Try.underlying22 hi hz0 hz1 hz2 rfl (.slice ra m rc) m ops [⟨kind, th, lk⟩] HM rfl (own_step OA.out (below_alloc w4 (.cells #[.int .i64 kind, .int .i64 th, .int .i64 lk] 35))) (some ⟨w4.heap.size, 0, none⟩) 1 1 rfl hm1 (op_lit w4 kind th lk 1) (by unfold maxLen; omega) (by omega) (by simp; omega) ?_; intro ra5 rc5 w5 own5 grow5 _; have TT := (SA.out.alloc (.cells #[.int .i64 kind, .int .i64 th, .int .i64 lk] 35)).grown (own_step OA.out (below_alloc w4 (.cells #[.int .i64 kind, .int .i64 th, .int .i64 lk] 35))) (Nat.le_refl _) grow5; have S5 := Lib.hid TT; have HA5 := Lib.hid (Shape.At.own (S := shO) own5 HM5.out); clear own5 grow5)
      | (refine step_append_n shO rfl _ _ 22 rfl w2.heap.size 35 i0 _ 24 Try.underlying22 hi hz0 hz1 hz2 rfl (.slice ra m rc) m ops [⟨kind, th, lk⟩] HM rfl OB.out (some ⟨w2.heap.size, 0, none⟩) 1 1 rfl hm1 FB.out (by unfold maxLen; omega) (by omega) hz4 ?_; intro ra5 rc5 w5 own5 grow5 _; have TT := SB.out.grown OB.out (Nat.le_refl _) grow5; have S5 := Lib.hid TT; have HA5 := Lib.hid (Shape.At.own (S := shO) own5 HM5.out); clear own5 grow5)
      | (go_at_call 9; (with_reducible refine (play_ok n K rk _ HA5 HM5 hmm1 hn1 hn2 hK1 hK2 _ s2 HR2).mono ?_); rintro e w6 ⟨E2, H2, T2, rfl, hE2, hH2, hT2, hb⟩; have TT := S5.out.step hb; have S6 := Lib.hid TT; have KE := Lib.hid hE2; have KH := Lib.hid hH2; have KT := Lib.hid hT2; clear hE2 hH2 hT2 hb)
      | fail)
    all_goals go_wp2_with fail
    all_goals go_meet
    all_goals exact ⟨E2, H2, T2, rfl, rfl, rfl, rfl, S6, KE, KH, KT⟩
  case rest =>
    obtain ⟨E2, H2, T2, rfl, rfl, rfl, rfl, XY, HE, HH2, HT2⟩ := hcut
    have HH1 := Lib.hid (HH.out.step XY.out.b)
    have HT1 := Lib.hid (HT.out.step XY.out.b)
    have B6 := Lib.hid (pstep B02.out XY.out.b)
    obtain ⟨eb, eo, ee, heb, d0⟩ := at_int HE.out HEL.out
    simp only [Option.some.injEq, Addr.mk.injEq, and_true] at ee
    obtain ⟨rfl, rfl⟩ := ee
    rw [Nat.zero_add] at d0
    obtain ⟨c0, c1, c2⟩ := trio_at XY.out.o
    have hbo := heap_lt XY.out.o
    have hwm : IntKind.i64.wrap ((m : Int) + 1) = (m : Int) + 1 := by rw [IntKind.wrap_i64]; omega
    have hmm2 : (m : Int) < (m : Int) + 1 := by omega
    have LK := Lib.hid (rowL_len s.hold K)
    have LN := Lib.hid (rowL_len s.wait n)
    have hKb : K ≤ 9223372036854775807 := by omega
    have hnb : n ≤ 9223372036854775807 := by omega
    have L1 := Lib.hid HH1.out.list
    rcases errK_ways n K rk s kind th lk with ⟨h0, h7⟩ | ⟨t, l, rfl, rfl, ht, hl, ⟨rfl, e, h1, h2⟩ | ⟨rfl, h1, h2, h3, ⟨e, h4⟩ | ⟨e, h4⟩⟩⟩
    · rw [HX.out] at h0 h7
      obtain rfl : s = s2 := by rw [← HS2.out, new_no h0 h7]
      have L2 := Lib.hid HH2.out.list
      have q0 : (x != 0) = true := by simpa using h0
      have q7 : (x == 7) = false := by simpa using h7
      go_wp2_with (first
        | (go_at_call 12; (with_reducible refine (equalI _ LK L1 L2 hKb).mono ?_); rintro e w7 ⟨rfl, hb⟩; have B7 := Lib.hid (pstep B6.out hb); have L3 := Lib.hid ((HT1.out.list).step hb); have L4 := Lib.hid ((HT2.out.list).step hb); clear hb)
        | (go_at_call 12; (with_reducible refine (equalI _ LN L3 L4 hnb).mono ?_); rintro e w8 ⟨rfl, hb⟩; have B8 := Lib.hid (pstep B7.out hb); clear hb)
        | fail)
      go_ret
      exact ⟨rfl, B8.out⟩
    · rw [HX.out] at e
      subst e
      have hs3 := HS2.out
      rw [new_give] at hs3
      subst hs3
      have dl := HH1.out.get hl
      have dl2 := HH2.out.get hl
      obtain ⟨_, _, ea, ha1, dl⟩ := dl
      simp only [Option.some.injEq, Addr.mk.injEq, and_true] at ea
      obtain ⟨rfl, rfl⟩ := ea
      obtain ⟨_, _, ea, ha2, dl2⟩ := dl2
      simp only [Option.some.injEq, Addr.mk.injEq, and_true] at ea
      obtain ⟨rfl, rfl⟩ := ea
      simp only [Nat.zero_add] at dl dl2
      rw [h1] at dl
      simp only [upZ_same] at dl2
      have hlK : (l : Int) < (K : Int) := by omega
      go_wp2_with fail
      go_loopw [89] (fun i wr => ∃ k q : Nat, k ≤ K ∧ i = .int .i64 k ∧ wr = wc.drewN q) (fun i _ => K - (intOf i).toNat)
      case atStart => exact ⟨0, 0, Nat.zero_le _, rfl, rfl⟩
      case round =>
        obtain ⟨k, q, hk, rfl, rfl⟩ := hrel
        by_cases hlt : k < K
        · by_cases hkl : k = l
          · subst hkl
            go_wp2_with fail
            go_quiet (fail)
            go_wp2_with fail
            go_roundw
            case rel => exact ⟨k + 1, _, by omega, by go_num, rfl⟩
            case measure => simp [intOf]; omega
          · have y1 := HH1.out.get hlt
            have y2 := HH2.out.get hlt
            obtain ⟨_, _, ea, _, y1⟩ := y1
            simp only [Option.some.injEq, Addr.mk.injEq, and_true] at ea
            obtain ⟨rfl, rfl⟩ := ea
            obtain ⟨_, _, ea, _, y2⟩ := y2
            simp only [Option.some.injEq, Addr.mk.injEq, and_true] at ea
            obtain ⟨rfl, rfl⟩ := ea
            simp only [Nat.zero_add, upZ_other hkl] at y1 y2
            have hne : ((k : Int) != (l : Int)) = true := by simp; omega
            have hne2 : ¬ (k : Int) = (l : Int) := by omega
            have hkK : (k : Int) < (K : Int) := by omega
            go_wp2_with fail
            go_quiet (fail)
            go_wp2_with fail
            go_roundw
            case rel => exact ⟨k + 1, _, by omega, by go_num, rfl⟩
            case measure => simp [intOf]; omega
        · obtain rfl : k = K := by omega
          go_wp2_with fail
          go_quiet (fail)
          go_wp2_with fail
          go_ret
          exact ⟨rfl, below_drewN (below_drewN B6.out _) _⟩
    · rw [HX.out] at e
      subst e
      have hs3 := HS2.out
      rw [new_take] at hs3
      subst hs3
      have dl := HH1.out.get hl
      have dl2 := HH2.out.get hl
      obtain ⟨_, _, ea, ha1, dl⟩ := dl
      simp only [Option.some.injEq, Addr.mk.injEq, and_true] at ea
      obtain ⟨rfl, rfl⟩ := ea
      obtain ⟨_, _, ea, ha2, dl2⟩ := dl2
      simp only [Option.some.injEq, Addr.mk.injEq, and_true] at ea
      obtain ⟨rfl, rfl⟩ := ea
      simp only [Nat.zero_add] at dl dl2
      rw [h4] at dl
      simp only [upZ_same] at dl2
      have hlK : (l : Int) < (K : Int) := by omega
      go_wp2_with fail
      go_loopw [89] (fun i wr => ∃ k q : Nat, k ≤ K ∧ i = .int .i64 k ∧ wr = wc.drewN q) (fun i _ => K - (intOf i).toNat)
      case atStart => exact ⟨0, 0, Nat.zero_le _, rfl, rfl⟩
      case round =>
        obtain ⟨k, q, hk, rfl, rfl⟩ := hrel
        by_cases hlt : k < K
        · by_cases hkl : k = l
          · subst hkl
            go_wp2_with fail
            go_quiet (fail)
            go_wp2_with fail
            go_roundw
            case rel => exact ⟨k + 1, _, by omega, by go_num, rfl⟩
            case measure => simp [intOf]; omega
          · have y1 := HH1.out.get hlt
            have y2 := HH2.out.get hlt
            obtain ⟨_, _, ea, _, y1⟩ := y1
            simp only [Option.some.injEq, Addr.mk.injEq, and_true] at ea
            obtain ⟨rfl, rfl⟩ := ea
            obtain ⟨_, _, ea, _, y2⟩ := y2
            simp only [Option.some.injEq, Addr.mk.injEq, and_true] at ea
            obtain ⟨rfl, rfl⟩ := ea
            simp only [Nat.zero_add, upZ_other hkl] at y1 y2
            have hne : ((k : Int) != (l : Int)) = true := by simp; omega
            have hne2 : ¬ (k : Int) = (l : Int) := by omega
            have hkK : (k : Int) < (K : Int) := by omega
            go_wp2_with fail
            go_quiet (fail)
            go_wp2_with fail
            go_roundw
            case rel => exact ⟨k + 1, _, by omega, by go_num, rfl⟩
            case measure => simp [intOf]; omega
        · obtain rfl : k = K := by omega
          go_wp2_with fail
          go_quiet (fail)
          go_wp2_with fail
          go_ret
          exact ⟨rfl, below_drewN (below_drewN B6.out _) _⟩
    · rw [HX.out] at e
      subst e
      have hs3 := HS2.out
      rw [new_wait] at hs3
      subst hs3
      have L2 : Hid (shI.At wc (some ⟨H2, 0, none⟩) K (rowL s.hold K)) := Lib.hid HH2.out.list
      go_wp2_with (first
        | (go_at_call 12; (with_reducible refine (equalI _ LK L1 L2 hKb).mono ?_); rintro e w7 ⟨rfl, hb⟩; have B7 := Lib.hid (pstep B6.out hb); have L3 := Lib.hid ((HT1.out.list).step hb); clear hb)
        | fail)
      go_ret
      exact ⟨rfl, B7.out⟩
theorem rankApart_walk (v0 v1 v2 v3 v4 : Value) (w : World) (g0 : ArgInt w v0) (g1 : ArgInt w v1) (g2 : ArgBool w v2) (g3 : ArgOps w v3) (g4 : ArgOp w v4) (u3 : lenOf v3 ≤ 5864062014634) :
    Calls Try.prog 7 #[v0, v1, v2, v3, v4] w fun e w' => e = .returned (.bool true) ∧ Below w.heap.size w w' := by
  obtain ⟨T, rfl⟩ := g0
  obtain ⟨L, rfl⟩ := g1
  obtain ⟨rk, rfl⟩ := g2
  obtain ⟨ad, cap, ops, rfl, h0, _, _⟩ := g3
  obtain ⟨kind, th, lk, rfl⟩ := g4
  have hm : ops.length ≤ 5864062014634 := u3
  by_cases hb : T < 1 ∨ 16 < T ∨ L < 1 ∨ 16 < L
  · exact apart_bad T L rk kind th lk w (Lib.hid h0) (Lib.hid rfl) hm (Lib.hid hb)
  · obtain ⟨n, rfl⟩ : ∃ n : Nat, T = n := ⟨T.toNat, by omega⟩
    obtain ⟨K, rfl⟩ : ∃ K : Nat, L = K := ⟨L.toNat, by omega⟩
    exact apart_ok n K rk kind th lk w (Lib.hid h0) (Lib.hid rfl) hm (by omega) (by omega) (by omega) (by omega)
end Go.Proofs.Ytcnnimhdnmmaoaa
