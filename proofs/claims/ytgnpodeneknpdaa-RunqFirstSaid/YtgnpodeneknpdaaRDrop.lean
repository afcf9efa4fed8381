/- RunqDrop: who is dropped is gone, and nobody else moves. -/
import Derived.Test.YtgnpodeneknpdaaRqL
import Derived.Test.YtgnpodeneknpdaaDelR
import Derived.Test.YtgnpodeneknpdaaFind
import Derived.Deep.CutRange
namespace Go.Proofs.Ytgnpodeneknpdaa
open Go.RowKit

/-- The number's box, and what was there before. -/
structure Bw (w1 : World) (bx : Nat) (x : Int) (wx : World) : Prop where
  b : Below w1.heap.size w1 wx
  o : wx.heap[bx]? = some (.cells #[.int .i64 x] 3 (0, 0))
  l : bx < w1.heap.size
section
variable {w1 wx wy : World} {b : Nat} {x : Int}
theorem Bw.step (h : Bw w1 b x wx) (hb : Below wx.heap.size wx wy) : Bw w1 b x wy := ⟨pstep h.b hb, heap_step h.o hb, h.l⟩
theorem Bw.all (h : Bw w1 b x wx) : Bw w1 b x wx ∧ wx.cell? ⟨b, 0, none⟩ = some (.int .i64 x) := ⟨h, one_at h.o⟩
theorem Bw.drew (h : Bw w1 b x wx) : Bw w1 b x wx.drew := ⟨h.b.drew, h.o, h.l⟩
theorem Bw.alloc (h : Bw w1 b x wx) (o : Obj) : Bw w1 b x (wx.alloc o) := h.step (below_alloc _ _)
theorem Bw.grown {M n : Nat} {e size : Nat} {v : Value} {xs : List Value} (h : Bw w1 b x wx) (ho : wx.ownsRow M e size v n xs) (hM : w1.heap.size ≤ M) (hg : wx.grownBy wy v.ownBlock) : Bw w1 b x wy :=
  ⟨h.b.grown hg h.b.size (fun _ hk => Nat.le_trans hM (own_lt ho hk).1), (hg.block _ (heap_lt h.o) (fun e => by have := (own_lt ho e.symm).1; have := h.l; omega)).trans h.o, h.l⟩
end
/-- The same, with one error code beside. -/
structure Bd (w1 : World) (bx : Nat) (id : Int) (E k : Nat) (x : Int) (wx : World) : Prop where
  b : Below w1.heap.size w1 wx
  o : w1.heap[bx]? = some (.cells #[.int .i64 id] 3 (0, 0))
  e : w1.cell? ⟨E, k, none⟩ = some (.int .i64 x)
  l : E < w1.heap.size
section
variable {w1 wx wy : World} {bx E k : Nat} {id x : Int}
theorem Bd.all (h : Bd w1 bx id E k x wx) : Bd w1 bx id E k x wx ∧ wx.cell? ⟨bx, 0, none⟩ = some (.int .i64 id) ∧ wx.cell? ⟨E, k, none⟩ = some (.int .i64 x) ∧ E < wx.heap.size :=
  ⟨h, one_at (heap_step h.o h.b), (h.b.cell (p := ⟨E, k, none⟩) h.l).trans h.e, Nat.lt_of_lt_of_le h.l h.b.size⟩
theorem Bd.step (h : Bd w1 bx id E k x wx) (hb : Below wx.heap.size wx wy) : Bd w1 bx id E k x wy := ⟨pstep h.b hb, h.o, h.e, h.l⟩
theorem Bd.drew (h : Bd w1 bx id E k x wx) : Bd w1 bx id E k x wx.drew := ⟨h.b.drew, h.o, h.e, h.l⟩
theorem Bd.grown {M n : Nat} {e size : Nat} {v : Value} {xs : List Value} (h : Bd w1 bx id E k x wx) (ho : wx.ownsRow M e size v n xs) (hM : w1.heap.size ≤ M) (hg : wx.grownBy wy v.ownBlock) : Bd w1 bx id E k x wy :=
  ⟨h.b.grown hg h.b.size (fun _ hk => Nat.le_trans hM (own_lt ho hk).1), h.o, h.e, h.l⟩
end
theorem mem_fn {l : List Int} {n : Nat} (hl : l.length = n) (v : Int) : v ∈ l ↔ ∃ i, i < n ∧ fnL l i = v := by
  subst hl
  rw [List.mem_iff_getElem?]
  constructor
  · rintro ⟨i, hi⟩
    have hlt := (List.getElem?_eq_some_iff.1 hi).1
    rw [fnL_get hlt] at hi
    exact ⟨i, hlt, Option.some.inj hi⟩
  · rintro ⟨i, hlt, rfl⟩
    exact ⟨i, fnL_get hlt⟩
theorem contains_Q {ad : Option Addr} {cap n : Nat} {l : List Int} (v : Int) (w : World) (HA : Hid (shI.At w ad cap l)) (hl : Hid (l.length = n)) (hn : n ≤ 9223372036854775807) (q : Bool) (hq : Hid (q = decide (v ∈ l))) :
    Calls Try.prog 16 #[.slice ad n cap, .int .i64 v] w fun e w' => e = .returned (.bool q) ∧ w = w' :=
  contains_N v w (Lib.hid (IntAt.of HA.out hl.out)) hn q (Lib.hid (by rw [hq.out, decide_eq_true_eq]; exact mem_fn hl.out v))
section
variable {ad : Option Addr} {cap n : Nat} {ops : List RuT}
set_option maxHeartbeats 4000000 in
set_option maxRecDepth 100000 in
theorem drop_ok (id : Int) (w : World) (HA : Hid (shR.At w ad cap ops)) (hm : Hid (ops.length = n)) (hn9 : n ≤ 5864062014634) (HW : Hid (∀ o ∈ ops, WfI o.i)) (HWI : Hid (WfI id)) :
    Calls Try.prog 7 #[.slice ad n cap, .int .i64 id] w fun e w' => e = .returned (.bool true) ∧ Below w.heap.size w w' := by
  obtain ⟨i0, hi, hz0, hz1, hz2⟩ := info_parts info_ru
  obtain ⟨s, hs⟩ : ∃ s, runU newU ops = s := ⟨_, rfl⟩
  obtain ⟨es, hes⟩ : ∃ es, errsU newU ops = es := ⟨_, rfl⟩
  obtain ⟨x, hx⟩ : ∃ x, errU s ⟨4, id, 0⟩ = x := ⟨_, rfl⟩
  obtain ⟨t, ht⟩ : ∃ t, stepU s ⟨4, id, 0⟩ = t := ⟨_, rfl⟩
  have hs2 : runU newU (ops ++ [⟨4, id, 0⟩]) = t := by rw [runU_one, hs, ht]
  have hes2 : errsU newU (ops ++ [⟨4, id, 0⟩]) = es ++ [x] := by rw [errsU_one, hs, hes, hx]
  have HM5 : Hid ((ops ++ [(⟨4, id, 0⟩ : RuT)]).length = n + 1) := Lib.hid (by rw [List.length_append, hm.out]; rfl)
  have HW5 : Hid (∀ o ∈ ops ++ [(⟨4, id, 0⟩ : RuT)], WfI o.i) := Lib.hid fun o ho => by
    rcases List.mem_append.1 ho with h | h
    · exact HW.out o h
    · rw [List.mem_singleton] at h; rw [h]; exact HWI.out
  have hel : es.length = n := by rw [← hes, errsU_len, hm.out]
  obtain ⟨hd1, hd2, hd3⟩ := drop_step s id 0
  rw [hx] at hd1
  rw [ht] at hd2 hd3
  have hsz := run_sizes hs
  rw [hm.out] at hsz
  obtain ⟨tl, htl⟩ : ∃ tl, s.taken.length = tl := ⟨_, rfl⟩
  obtain ⟨ll, hll⟩ : ∃ ll, s.list.length = ll := ⟨_, rfl⟩
  obtain ⟨m, hml⟩ : ∃ m, t.list.length = m := ⟨_, rfl⟩
  have htl2 : t.taken.length = tl := by rw [hd2, htl]
  rw [htl, hll] at hsz
  have HP1 := Lib.hid (fun X (HX : Hid (shR.At X ad cap ops)) => play_res hm (by omega) HW (Lib.hid hes) (Lib.hid hs) (Lib.hid htl) (Lib.hid hll) ad cap X HX)
  have HP2 := Lib.hid (fun (ra : Option Addr) (rc : Nat) X (HX : Hid (shR.At X ra rc (ops ++ [⟨4, id, 0⟩]))) => play_res HM5 (by omega) HW5 (Lib.hid hes2) (Lib.hid hs2) (Lib.hid htl2) (Lib.hid hml) ra rc X HX)
  have hxe : (es ++ [x])[n]? = some x := by rw [List.getElem?_append_right (by omega), hel, Nat.sub_self]; rfl
  have HXE := Lib.hid hxe
  obtain ⟨bi, hbi⟩ : ∃ b, decide (id ∈ leftU s) = b := ⟨_, rfl⟩
  have HBI : Hid (bi = decide (id ∈ leftU s)) := Lib.hid hbi.symm
  have HXB : Hid ((x == 0) = bi) := Lib.hid (by
    rw [← hbi]
    by_cases h : id ∈ leftU s
    · rw [hd1.2 h, decide_eq_true h]; rfl
    · rw [decide_eq_false h]; simpa using fun q => h (hd1.1 q))
  have HTL := Lib.hid htl
  have HLL : Hid ((leftU s).length = ll) := Lib.hid (by rw [left_len, hll])
  have HML : Hid ((leftU t).length = m) := Lib.hid (by rw [left_len, hml])
  have HFL : Hid (leftU t = (leftU s).filter fun y => decide (¬ y = id)) := Lib.hid hd3
  have HTK : Hid (t.taken = s.taken) := Lib.hid hd2
  have hmw : m ≤ ll := by rw [← HML.out, HFL.out, ← HLL.out]; exact List.length_filter_le _ _
  have hnw : IntKind.i64.wrap ((n : Int) + 1) = (n : Int) + 1 := by rw [IntKind.wrap_i64]; omega
  have htb : tl ≤ 9223372036854775807 := by omega
  have hlb : ll ≤ 9223372036854775807 := by omega
  have hmb : m ≤ 9223372036854775807 := by omega
  have hl9 : ll ≤ 10000000000000 := by omega
  unfold PlayN at HP1 HP2
  clear hs hes hx ht hs2 hes2 hel hxe hd1 hd2 hd3 htl hll hml htl2 hbi
  have X0 : Bw (w.alloc (.cells #[.int .i64 id] 3)) w.heap.size id (w.alloc (.cells #[.int .i64 id] 3)) := ⟨Below.refl _ _, heap_alloc_new w _, by simp⟩
  have X1 := Lib.hid X0
  have HAF := Lib.hid (HA.out.step (below_alloc w (.cells #[.int .i64 id] 3)))
  have BW := Lib.hid (below_alloc w (.cells #[.int .i64 id] 3))
  have hm1 : Hid (([⟨4, id, 0⟩] : List RuT).length = 1) := Lib.hid rfl
  clear X0
  go_enter Try.func7, Try.ntmps7
  go_upto_region 4 with (first
    | (go_at_call 13; (with_reducible refine (alive13_N _).mono ?_); rintro e w1 ⟨rfl, hb⟩; have X2 := Lib.hid (X1.out.step hb); have HA1 := Lib.hid (HAF.out.step hb); clear hb)
    | (go_at_call 9; (with_reducible refine (HP1.out _ HA1).mono ?_); rintro e w2 ⟨E, ta, tc, la, lc, rfl, _, hD, hW, hb⟩; have X3 := Lib.hid (X2.out.step hb); have HA2 := Lib.hid (HA1.out.step hb); have D2 := Lib.hid hD; have W2 := Lib.hid hW; clear hb hD hW)
    | fail)
  have Y0 : Bw w2 w.heap.size id w2 := ⟨Below.refl _ _, X3.out.o, heap_lt X3.out.o⟩
  have XD := Y0.drew
  have X3a := Y0.alloc (.cells #[.int .i64 4, .int .i64 id, .int .i64 0] 34)
  have X3b := (Y0.alloc (.cells #[.int .i64 4, .int .i64 id, .int .i64 0] 34)).drew
  have B02 := Lib.hid (pstep BW.out X3.out.b)
  have HD1 := Lib.hid (HA2.out.step (Below.refl _ w2).drew)
  have HD2 := Lib.hid (HA2.out.step (below_alloc w2 (.cells #[.int .i64 4, .int .i64 id, .int .i64 0] 34)).drew)
  have FB0 := Lib.hid (ru_oneAt w2 ⟨4, id, 0⟩ 1)
  go_cut [8, 9, 10] from 19 to 29 (fun a b c' wy => ∃ E5 ta5 tc5 la5 lc5, a = .slice (some ⟨E5, 0, none⟩) (n + 1) (n + 1) ∧ b = .slice ta5 tl tc5 ∧ c' = .slice la5 m lc5 ∧ Hid (Bw w2 w.heap.size id wy) ∧ Hid (shI.At wy (some ⟨E5, 0, none⟩) (n + 1) (es ++ [x])) ∧ Hid (shI.At wy ta5 tc5 s.taken) ∧ Hid (shI.At wy la5 lc5 (leftU t)))
  case first =>
    go_region_held3 (fun w' => Bw w2 w.heap.size id w' ∧ w'.cell? ⟨w.heap.size, 0, none⟩ = some (.int .i64 id))
      (first | (refine Bw.all ?_; with_reducible assumption) | (refine Bw.all (Bw.alloc ?_ _); with_reducible assumption) | (refine Bw.all (Bw.drew (Bw.alloc ?_ _)); with_reducible assumption) | (refine Bw.all (Bw.alloc (Bw.drew ?_) _); with_reducible assumption))
      (first
      | (go_at_call 14; (with_reducible refine (clone_R ops ad n cap _ hm HD1 hn9).mono ?_); rintro e w4 ⟨ra, rc, rfl, own, hb⟩; have TT := Y0.drew.step hb; have SA := Lib.hid TT; have OA := Lib.hid (own_base (base' := w2.heap.size) own (Nat.le_refl _)); have hz4 : w2.heap.size ≤ w4.heap.size := (by have := hb.size; simpa using this); clear hb own)
      | (go_at_call 14; (with_reducible refine (clone_R ops ad n cap _ hm HD2 hn9).mono ?_); rintro e w4 ⟨ra, rc, rfl, own, hb⟩; have TT := (Y0.alloc (.cells #[.int .i64 4, .int .i64 id, .int .i64 0] 34)).drew.step hb; have SB := Lib.hid TT; have OB := Lib.hid (own_base (base' := w2.heap.size) own (by simp)); have FB := Lib.hid ((FB0.out.step (Below.refl _ _).drew).step hb); have hz4 : w2.heap.size ≤ w4.heap.size := (by have := hb.size; simp at this; omega); clear hb own)
      | (refine step_append_n shR rfl _ _ 22 rfl w2.heap.size 34 i0 _ 24 Try.underlying22 hi hz0 hz1 hz2 rfl (.slice ra n rc) n ops [⟨4, id, 0⟩] hm rfl (own_step OA.out (below_alloc w4 (.cells #[.int .i64 4, .int .i64 id, .int .i64 0] 34))) (some ⟨w4.heap.size, 0, none⟩) 1 1 rfl hm1 (ru_oneAt w4 ⟨4, id, 0⟩ 1) (by unfold maxLen; omega) (by omega) (by simp; omega) ?_; intro ra5 rc5 w5 own5 grow5 _; have TT := (SA.out.alloc (.cells #[.int .i64 4, .int .i64 id, .int .i64 0] 34)).grown (own_step OA.out (below_alloc w4 (.cells #[.int .i64 4, .int .i64 id, .int .i64 0] 34))) (Nat.le_refl _) grow5; have S5 := Lib.hid TT; have HR5 := Lib.hid (Shape.At.own (S := shR) own5 HM5.out); clear own5 grow5)
      | (refine step_append_n shR rfl _ _ 22 rfl w2.heap.size 34 i0 _ 24 Try.underlying22 hi hz0 hz1 hz2 rfl (.slice ra n rc) n ops [⟨4, id, 0⟩] hm rfl OB.out (some ⟨w2.heap.size, 0, none⟩) 1 1 rfl hm1 FB.out (by unfold maxLen; omega) (by omega) hz4 ?_; intro ra5 rc5 w5 own5 grow5 _; have TT := SB.out.grown OB.out (Nat.le_refl _) grow5; have S5 := Lib.hid TT; have HR5 := Lib.hid (Shape.At.own (S := shR) own5 HM5.out); clear own5 grow5)
      | (go_at_call 9; (with_reducible refine (HP2.out ra5 rc5 _ HR5).mono ?_); rintro e w6 ⟨E5, ta5, tc5, la5, lc5, rfl, hE, hD, hW, hb⟩; rw [HTK.out] at hD; have TT := S5.out.step hb; have S6 := Lib.hid TT; have KE := Lib.hid hE; have KD := Lib.hid hD; have KW := Lib.hid hW; clear hE hD hW hb)
      | fail)
    all_goals go_wp2_with fail
    all_goals go_meet
    all_goals exact ⟨E5, ta5, tc5, la5, lc5, rfl, rfl, rfl, S6, KE, KD, KW⟩
  case rest =>
    obtain ⟨E5, ta5, tc5, la5, lc5, rfl, rfl, rfl, XY, KE, KD, KW⟩ := hcut
    have D6 := Lib.hid (D2.out.step XY.out.b)
    have W6 := Lib.hid (W2.out.step XY.out.b)
    have B6 := Lib.hid (pstep B02.out XY.out.b)
    obtain ⟨eb, eo, ee, heb, cx⟩ := at_int KE.out HXE.out
    cases ee
    rw [Nat.zero_add] at cx
    have Z0 : Bd wc w.heap.size id E5 n x wc := ⟨Below.refl _ _, XY.out.o, cx, heb⟩
    have ZD := Z0.drew
    have FM : Hid (((leftU s).filter fun x => decide (¬ x = id)).length = m) := Lib.hid (by rw [← HFL.out]; exact HML.out)
    obtain ⟨b0, hb0⟩ : ∃ b0, w.heap.size = b0 := ⟨_, rfl⟩
    have CT := Lib.hid (fun (wx : World) (h : Bd wc w.heap.size id E5 n x wx) => (contains_Q id wx (Lib.hid (W6.out.step h.b)) HLL hlb bi HBI).mono fun e w' q => (⟨q.1, q.2 ▸ h⟩ : e = .returned (.bool bi) ∧ Bd wc w.heap.size id E5 n x w'))
    have E1 := Lib.hid (fun (wx : World) (h : Bd wc w.heap.size id E5 n x wx) => (equalI wx HTL (Lib.hid (D6.out.step h.b)) (Lib.hid (KD.out.step h.b)) htb).mono fun e w' q => (⟨q.1, h.step q.2⟩ : e = .returned (.bool true) ∧ Bd wc w.heap.size id E5 n x w'))
    have CL := Lib.hid (fun (wx : World) (h : Bd wc w.heap.size id E5 n x wx) => (clone_I (leftU s) la ll lc wx HLL (Lib.hid (W6.out.step h.b)) hl9).mono fun e w' q => by
      obtain ⟨ra, rc, q1, q2, q3⟩ := q
      exact (⟨ra, rc, q1, h.step q3, Lib.hid (own_base q2 h.b.size)⟩ : ∃ ra rc, e = .returned (.slice ra ll rc) ∧ Bd wc w.heap.size id E5 n x w' ∧ Hid (w'.ownsRow wc.heap.size 3 1 (.slice ra ll rc) ll (shI.flat (leftU s)))))
    have DF := Lib.hid (fun (ra : Option Addr) (rc : Nat) (wx : World) (h : Bd wc w.heap.size id E5 n x wx) (ho : Hid (wx.ownsRow wc.heap.size 3 1 (.slice ra ll rc) ll (shI.flat (leftU s)))) => (delf_own id w.heap.size m wx ho HLL hl9 (Lib.hid (heap_lt (heap_step h.o h.b))) (Lib.hid (one_at (heap_step h.o h.b))) (Lib.hid (heap_lt h.o)) FM).mono fun e w' q => by
      obtain ⟨q1, q2, q3⟩ := q
      rw [← HFL.out] at q2
      exact (⟨q1, h.grown ho.out (Nat.le_refl _) q3, Lib.hid q2⟩ : e = .returned (.slice ra m rc) ∧ Bd wc w.heap.size id E5 n x w' ∧ Hid (shI.At w' ra rc (leftU t))))
    have E2 := Lib.hid (fun (ra : Option Addr) (rc : Nat) (wx : World) (h : Bd wc w.heap.size id E5 n x wx) (ho : Hid (shI.At wx ra rc (leftU t))) => (equalI wx HML (Lib.hid (KW.out.step h.b)) ho hmb).mono fun e w' q => (⟨q.1, h.step q.2⟩ : e = .returned (.bool true) ∧ Bd wc w.heap.size id E5 n x w'))
    clear hb0
    have hxb := HXB.out
    have hnb0 : (0 : Int) ≤ (n : Int) := by omega
    have hnb1 : (n : Int) < (n : Int) + 1 := by omega
    have hnb2 : n < n + 1 := by omega
    have hnb3 : decide (n < n + 1) = true := decide_eq_true hnb2
    clear HA2 XD X3a X3b HD1 HD2 FB0 D2 W2 HP1 HP2 HXE hn9 hi hz0 hz1 hz2 X1 X2 X3 HAF HA1 Y0 BW
    cases bi with
    | true =>
      obtain rfl : x = 0 := by simpa using hxb
      clear hxb
      go_wp2_with fail
      go_region_held3 (fun w' => Bd wc w.heap.size id E5 n 0 w' ∧ w'.cell? ⟨w.heap.size, 0, none⟩ = some (.int .i64 id) ∧ w'.cell? ⟨E5, n, none⟩ = some (.int .i64 0) ∧ E5 < w'.heap.size)
        (first | (refine Bd.all ?_; with_reducible assumption) | (refine Bd.all (Bd.drew ?_); with_reducible assumption))
        (first
        | (go_at_call 16; (with_reducible refine (CT.out _ (by with_reducible assumption)).mono ?_); rintro e w7 ⟨rfl, TT⟩)
        | (go_at_call 12; (with_reducible refine (E1.out _ (by with_reducible assumption)).mono ?_); rintro e w7 ⟨rfl, TT⟩)
        | (go_at_call 18; (with_reducible refine (CL.out _ (by with_reducible assumption)).mono ?_); rintro e w8 ⟨ra, rc, rfl, TT, OO⟩)
        | (go_at_call 22; (with_reducible refine (DF.out ra rc _ (by with_reducible assumption) (by with_reducible assumption)).mono ?_); rintro e w9 ⟨rfl, TT, AA⟩)
        | (go_at_call 12; (with_reducible refine (E2.out ra rc _ (by with_reducible assumption) (by with_reducible assumption)).mono ?_); rintro e w10 ⟨rfl, TT⟩; have BT := Lib.hid (pstep B6.out TT.b))
        | fail)
      all_goals go_wp2_with fail
      all_goals go_ret
      all_goals exact ⟨rfl, BT.out⟩
    | false =>
      have hx0 : ¬ x = 0 := by simpa using hxb
      go_wp2_with fail
      go_region_held3 (fun w' => Bd wc w.heap.size id E5 n x w' ∧ w'.cell? ⟨w.heap.size, 0, none⟩ = some (.int .i64 id) ∧ w'.cell? ⟨E5, n, none⟩ = some (.int .i64 x) ∧ E5 < w'.heap.size)
        (first | (refine Bd.all ?_; with_reducible assumption) | (refine Bd.all (Bd.drew ?_); with_reducible assumption))
        (first
        | (go_at_call 16; (with_reducible refine (CT.out _ (by with_reducible assumption)).mono ?_); rintro e w7 ⟨rfl, TT⟩)
        | (go_at_call 12; (with_reducible refine (E1.out _ (by with_reducible assumption)).mono ?_); rintro e w7 ⟨rfl, TT⟩)
        | (go_at_call 18; (with_reducible refine (CL.out _ (by with_reducible assumption)).mono ?_); rintro e w8 ⟨ra, rc, rfl, TT, OO⟩)
        | (go_at_call 22; (with_reducible refine (DF.out ra rc _ (by with_reducible assumption) (by with_reducible assumption)).mono ?_); rintro e w9 ⟨rfl, TT, AA⟩)
        | (go_at_call 12; (with_reducible refine (E2.out ra rc _ (by with_reducible assumption) (by with_reducible assumption)).mono ?_); rintro e w10 ⟨rfl, TT⟩; have BT := Lib.hid (pstep B6.out TT.b))
        | fail)
      all_goals go_wp2_with fail
      all_goals go_ret
      all_goals exact ⟨rfl, BT.out⟩
end
theorem runqDrop_walk (v v1 : Value) (w : World) (h : ArgRus w v) (h1 : ArgInt w v1) (u : lenOf v ≤ 5864062014634) : Calls Try.prog 7 #[v, v1] w fun e w' => e = .returned (.bool true) ∧ Below w.heap.size w w' := by
  obtain ⟨a1, c1, l, rfl, hA, hwf, _, _⟩ := h
  obtain ⟨id, rfl, hid⟩ := h1
  exact drop_ok id w (Lib.hid hA) (Lib.hid rfl) u (Lib.hid hwf) (Lib.hid hid)
end Go.Proofs.Ytgnpodeneknpdaa
