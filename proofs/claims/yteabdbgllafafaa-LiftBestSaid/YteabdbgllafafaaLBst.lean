/- LiftBest: the walk. -/
import Derived.Test.YteabdbgllafafaaLftJ
import Derived.Test.YteabdbgllafafaaLftH
import Derived.Test.YteabdbgllafafaaLftO
import Derived.Test.YteabdbgllafafaaDelI
namespace Go.Proofs.Yteabdbgllafafaa
open Go.RowKit

set_option maxHeartbeats 4000000 in
set_option maxRecDepth 100000 in
theorem best_no {ad pd : Option Addr} {cap n pc np : Nat} {l ps : List Int} (head : Int) (w : World) (HA : Hid (shI.At w ad cap l)) (hn : Hid (l.length = n)) (_ : Hid (shI.At w pd pc ps)) (_ : Hid (ps.length = np)) (QN : Hid (¬ (okH head ∧ okL l))) :
    Calls Try.prog 5 #[.int .i64 head, .slice ad n cap, .slice pd np pc] w fun e w' => e = .returned (.bool true) ∧ Below w.heap.size w w' := by
  go_enter Try.func5, Try.ntmps5
  go_wp2_with (first
    | (go_at_call 21; (with_reducible refine (alive19_N _).mono ?_); rintro e w1 ⟨rfl, b1⟩; have B1 := Lib.hid b1; have H1 := Lib.hid (HA.out.step b1); clear b1)
    | (go_at_call 11; (with_reducible refine (short_X head _ H1 hn QN).mono ?_); rintro e w2 ⟨a2, c2, rfl, r2, b2⟩; have B2 := Lib.hid (pstep B1.out b2); clear r2 b2)
    | fail)
  go_ret
  exact ⟨rfl, B2.out⟩
/-- Those that are left, and those that were taken: two rows of the call's own, apart. -/
structure Bl (w wr : World) (lv : Value) (nl : Nat) (left : List Int) (ov : Value) (no : Nat) (other : List Int) : Prop where
  b : Below w.heap.size w wr
  q : Que shI wr w.heap.size 3 lv nl left
  o : wr.ownsRow w.heap.size 3 1 ov no (shI.flat other)
  ol : other.length = no
  ap : ∀ x, lv.ownBlock = some x → ¬ ov.ownBlock = some x
section
variable {w wr wy : World} {lv lv' ov ov' : Value} {nl nl' no no' : Nat} {left left' other other' : List Int}
theorem Bl.step (h : Bl w wr lv nl left ov no other) (hb : Below wr.heap.size wr wy) : Bl w wy lv nl left ov no other := ⟨pstep h.b hb, que_step h.q hb, own_step h.o hb, h.ol, h.ap⟩
theorem Bl.growO (h : Bl w wr lv nl left ov no other) (hg : wr.grownBy wy ov.ownBlock) (hq : wy.ownsRow w.heap.size 3 1 ov' no' (shI.flat other')) (hl : other'.length = no') (hf : ∀ x, ov'.ownBlock = some x → ov.ownBlock = some x ∨ x = wr.heap.size) : Bl w wy lv nl left ov' no' other' :=
  ⟨h.b.grown hg h.b.size (fun _ hk => (own_lt h.o hk).1), que_kept h.q hg (fun x hx e => h.ap x hx e.symm), hq, hl, fun x hx hx' => by
    rcases hf x hx' with e | e
    · exact h.ap x hx e
    · have := (que_lt h.q hx).2; omega⟩
theorem Bl.cut (h : Bl w wr lv nl left ov no other) (hg : wr.grownBy wy lv.ownBlock) (hq : Que shI wy w.heap.size 3 lv' nl' left') (hf : lv'.ownBlock = lv.ownBlock) : Bl w wy lv' nl' left' ov no other :=
  ⟨h.b.grown hg h.b.size (fun _ hk => (que_lt h.q hk).1), hq, own_kept h.o hg (fun x hx e => h.ap x e.symm hx), h.ol, fun x hx => h.ap x (by rw [← hf]; exact hx)⟩
end
/-- Where the pick points. -/
theorem pick_num (p : Int) (m : Nat) (hm : 0 < m) (h4 : m ≤ 400) : ∃ (r : Int) (q : Nat), q < m ∧ p.tmod (m : Int) = r ∧ IntKind.i64.wrap r = r ∧ IntKind.i64.wrap (r + m) = r + m ∧ (r + m).tmod (m : Int) = (q : Int) ∧ IntKind.i64.wrap (q : Int) = (q : Int) := by
  have h1 : p.tmod (m : Int) < m := Int.tmod_lt_of_pos p (by omega)
  have h2 : -(m : Int) < p.tmod (m : Int) := by
    have h := Int.lt_tmod_of_pos p (b := (m : Int)) (by omega)
    exact h
  obtain ⟨r, hr⟩ : ∃ r, p.tmod (m : Int) = r := ⟨_, rfl⟩
  rw [hr] at h1 h2
  have h3 : 0 ≤ (r + m).tmod (m : Int) := Int.tmod_nonneg (m : Int) (by omega)
  have h5 : (r + m).tmod (m : Int) < m := Int.tmod_lt_of_pos _ (by omega)
  refine ⟨r, ((r + m).tmod (m : Int)).toNat, by omega, hr, by rw [IntKind.wrap_i64]; omega, by rw [IntKind.wrap_i64]; omega, by omega, by rw [IntKind.wrap_i64]; omega⟩
theorem perm_take {left other l : List Int} {q : Nat} {x : Int} (hp : (left ++ other).Perm l) (hx : left[q]? = some x) : ((left.take q ++ left.drop (q + 1)) ++ (other ++ [x])).Perm l := by
  obtain ⟨hq, hxe⟩ := List.getElem?_eq_some_iff.1 hx
  have h1 : left = left.take q ++ x :: left.drop (q + 1) := by
    rw [← hxe, ← List.drop_eq_getElem_cons hq, List.take_append_drop]
  have h2 : ((left.take q ++ left.drop (q + 1)) ++ (other ++ [x])).Perm (left ++ other) := by
    have h3 : ((left.take q ++ left.drop (q + 1)) ++ (other ++ [x])).Perm (x :: (left.take q ++ left.drop (q + 1)) ++ other) := by
      rw [← List.append_assoc]
      exact List.perm_append_comm
    have h4 : (x :: (left.take q ++ left.drop (q + 1)) ++ other).Perm (left ++ other) := by
      refine List.Perm.append_right _ ?_
      have h5 : (x :: (left.take q ++ left.drop (q + 1))).Perm (left.take q ++ x :: left.drop (q + 1)) := List.perm_middle.symm
      rw [← h1] at h5
      exact h5
    exact h3.trans h4
  exact h2.trans hp
theorem delete_z {base e n c : Nat} {ad : Option Addr} {l : List Int} (w : World) (HO : Hid (Que shI w base e (.slice ad n c) n l)) (hk : 0 < n) :
    Calls Try.prog 23 #[.slice ad n c, .int .i64 0, .int .i64 1] w fun e' w' => e' = .returned (.slice ad (n - 1) c) ∧ Que shI w' base e (.slice ad (n - 1) c) (n - 1) (l.take 0 ++ l.drop (0 + 1)) ∧ w.grownBy w' (Value.slice ad n c).ownBlock := delete_que 0 w HO hk
theorem cut_len {left : List Int} {q m : Nat} (hl : left.length = m) (hq : q < m) : (left.take q ++ left.drop (q + 1)).length = m - 1 := by
  rw [List.length_append, List.length_take, List.length_drop]
  omega
set_option maxHeartbeats 4000000 in
set_option maxRecDepth 100000 in
theorem best_ok {ad pd : Option Addr} {cap n pc np : Nat} {l ps : List Int} (head : Int) (w : World) (HA : Hid (shI.At w ad cap l)) (hn : Hid (l.length = n)) (HP : Hid (shI.At w pd pc ps)) (hnp : Hid (ps.length = np)) (QH : Hid (okH head)) (QL : Hid (okL l)) :
    Calls Try.prog 5 #[.int .i64 head, .slice ad n cap, .slice pd np pc] w fun e w' => e = .returned (.bool true) ∧ Below w.heap.size w w' := by
  obtain ⟨i0, hi, hz0, hz1, hz2⟩ := info_parts info_int
  have h4 : n ≤ 400 := by rw [← hn.out]; exact QL.out.1
  have hn17 : n ≤ 17592186044415 := by omega
  have HOKP : Hid (∀ o : List Int, l.Perm o → okL o) := Lib.hid (fun o h => ⟨by rw [← h.length_eq]; exact QL.out.1, fun x hx => QL.out.2 x (h.mem_iff.2 hx)⟩)
  have HSN : Hid ((shortL head l).length = n) := Lib.hid ((short_len head l).trans hn.out)
  have HWN : Hid ((upR head l ++ dnR head l).length = n) := Lib.hid ((sweep_len head l).trans hn.out)
  obtain ⟨V, hV⟩ : ∃ V, wayS head (shortL head l) = V := ⟨_, rfl⟩
  have HV : Hid (wayV head (shortL head l) = V) := Lib.hid ((if_pos ⟨QH.out, HOKP.out _ (short_is_perm head l).symm⟩).trans hV)
  have HER : Hid (errH head (shortL head l) = 0) := Lib.hid (if_pos ⟨QH.out, HOKP.out _ (short_is_perm head l).symm⟩)
  obtain ⟨V3, hV3⟩ : ∃ V3, wayS head (upR head l ++ dnR head l) = V3 := ⟨_, rfl⟩
  have HV3 : Hid (wayV head (upR head l ++ dnR head l) = V3) := Lib.hid ((if_pos ⟨QH.out, HOKP.out _ (sweep_perm head l).symm⟩).trans hV3)
  have HER3 : Hid (errH head (upR head l ++ dnR head l) = 0) := Lib.hid (if_pos ⟨QH.out, HOKP.out _ (sweep_perm head l).symm⟩)
  have d3 : decide (V ≤ V3) = true := decide_eq_true (by rw [← hV, ← hV3]; exact short_least (sweep_perm head l).symm)
  have HWV := Lib.hid hV
  clear hV hV3
  go_enter Try.func5, Try.ntmps5
  go_wp2_with (first
    | (go_at_call 21; (with_reducible refine (alive19_N _).mono ?_); rintro e w1 ⟨rfl, b1⟩; have B1 := Lib.hid b1; have H1 := Lib.hid (HA.out.step b1); clear b1)
    | (go_at_call 11; (with_reducible refine (short_N head _ H1 hn QH QL).mono ?_); rintro e w2 ⟨a2, c2, rfl, r2, b2⟩; have R2 := Lib.hid r2; have B2 := Lib.hid (pstep B1.out b2); have H2 := Lib.hid (H1.out.step b2); have P2 := Lib.hid (HP.out.step B2.out); clear r2 b2)
    | (go_at_call 22; (with_reducible refine (clone_I _ H2 hn hn17).mono ?_); rintro e w3 ⟨la, lc, rfl, o3, b3⟩; have L0 : Hid (Bl w2 w3 (.slice la n lc) n l (.slice none 0 0) 0 []) := Lib.hid ⟨b3, que_own (S := shI) o3 hn.out, World.ownsRow_nil _ _ _ _, rfl, fun x _ hx => by cases hx⟩; clear o3 b3)
    | fail)
  have HP0 : Hid ((l ++ []).Perm l) := Lib.hid (by rw [List.append_nil])
  go_loopw [9, 10, 11] (fun lv ov kv wr => ∃ (nl no : Nat) (xa : Option Addr) (xc : Nat) (oa : Option Addr) (oc : Nat) (left other : List Int), lv = .slice xa nl xc ∧ ov = .slice oa no oc ∧ kv = .int .i64 no ∧ nl + no = n ∧ Hid ((left ++ other).Perm l) ∧ Hid (Bl w2 wr (.slice xa nl xc) nl left (.slice oa no oc) no other)) (fun lv _ _ _ => lenOf lv)
  case atStart => exact ⟨n, 0, la, lc, none, 0, l, [], rfl, rfl, rfl, by omega, HP0, L0⟩
  case round =>
    clear HP0 L0
    obtain ⟨nl, no, xa, xc, oa, oc, left, other, rfl, rfl, rfl, hsum, HPM, HB⟩ := hrel
    have hll := Lib.hid (que_len HB.out.q)
    have hol := Lib.hid HB.out.ol
    have PR := Lib.hid (P2.out.step HB.out.b)
    by_cases h0 : 0 < nl
    · have h0d : decide ((nl : Int) > 0) = true := decide_eq_true (by omega)
      have hnl4 : nl ≤ 400 := by omega
      have hno4 : no ≤ 400 := by omega
      have xk : IntKind.i64.wrap ((no : Int) + 1) = ((no + 1 : Nat) : Int) := by rw [IntKind.wrap_i64]; omega
      by_cases hkp : no < np
      · have hkd : decide ((no : Int) < (np : Int)) = true := decide_eq_true (by omega)
        obtain ⟨p, hp⟩ : ∃ p, ps[no]? = some p := ⟨ps[no]'(by rw [hnp.out]; exact hkp), List.getElem?_eq_getElem _⟩
        obtain ⟨pb, po, rfl, hpb, e0⟩ := at_int PR.out hp
        obtain ⟨r, q, hq, z1, z2, z3, z4, z5⟩ := pick_num p nl h0 hnl4
        have z6 : ¬ (nl : Int) = 0 := by omega
        obtain ⟨x, hx⟩ : ∃ x, left[q]? = some x := ⟨left[q]'(by rw [hll.out]; exact hq), List.getElem?_eq_getElem _⟩
        clear hp
        obtain ⟨bb, off, rfl, hbl, c0⟩ := at_int (que_at HB.out.q) hx
        have HPN := Lib.hid (perm_take HPM.out hx)
        have HCL := Lib.hid (cut_len hll.out hq)
        have x5 : IntKind.i64.wrap ((q : Int) + 1) = (q : Int) + 1 := by rw [IntKind.wrap_i64]; omega
        have LX := Lib.hid (HB.out.step (below_alloc wr (.cells #[.int .i64 x] 3)))
        have XL := Lib.hid (int_lit wr x 1)
        have hsz := LX.out.b.size
        clear hx
        go_wp2_with (first
          | (at_builtin; refine wpList_append_n shI rfl _ _ 22 rfl w2.heap.size 3 i0 _ 8 Try.underlying22 hi hz0 hz1 hz2 rfl (.slice oa no oc) no other [x] hol rfl LX.out.o (some ⟨wr.heap.size, 0, none⟩) 1 1 rfl (Lib.hid rfl) XL.out (by unfold maxLen; omega) (by omega) hsz ?_; intro ra4 rc4 w4 own4 grow4 new4; have L4 := Lib.hid (LX.out.growO grow4 own4 (by rw [List.length_append, hol.out]; rfl) new4); have Q4 := Lib.hid L4.out.q; clear own4 grow4 new4)
          | (go_at_call 23; (with_reducible refine (delete_que q _ Q4 hq).mono ?_); rintro e w5 ⟨rfl, q5, g5⟩; have L5 := Lib.hid (L4.out.cut g5 q5 rfl); clear q5 g5)
          | fail)
        go_roundw
        case rel => exact ⟨nl - 1, no + 1, _, _, ra4, rc4, _, _, rfl, rfl, by go_num, by omega, HPN, L5⟩
        case measure => simp [lenOf]; omega
      · have hkd : decide ((no : Int) < (np : Int)) = false := decide_eq_false (by omega)
        obtain ⟨q, hq0⟩ : ∃ q, q = 0 := ⟨0, rfl⟩
        have hq : q < nl := by omega
        obtain ⟨x, hx⟩ : ∃ x, left[q]? = some x := ⟨left[q]'(by rw [hll.out]; exact hq), List.getElem?_eq_getElem _⟩
        obtain ⟨bb, off, rfl, hbl, c0⟩ := at_int (que_at HB.out.q) hx
        have HPN := Lib.hid (perm_take HPM.out hx)
        have HCL := Lib.hid (cut_len hll.out hq)
        have x5 : IntKind.i64.wrap ((q : Int) + 1) = (q : Int) + 1 := by rw [IntKind.wrap_i64]; omega
        have LX := Lib.hid (HB.out.step (below_alloc wr (.cells #[.int .i64 x] 3)))
        have XL := Lib.hid (int_lit wr x 1)
        have hsz := LX.out.b.size
        clear hx
        subst hq0
        rw [Nat.add_zero] at c0
        go_wp2_with (first
          | (at_builtin; refine wpList_append_n shI rfl _ _ 22 rfl w2.heap.size 3 i0 _ 8 Try.underlying22 hi hz0 hz1 hz2 rfl (.slice oa no oc) no other [x] hol rfl LX.out.o (some ⟨wr.heap.size, 0, none⟩) 1 1 rfl (Lib.hid rfl) XL.out (by unfold maxLen; omega) (by omega) hsz ?_; intro ra4 rc4 w4 own4 grow4 new4; have L4 := Lib.hid (LX.out.growO grow4 own4 (by rw [List.length_append, hol.out]; rfl) new4); have Q4 := Lib.hid L4.out.q; clear own4 grow4 new4)
          | (go_at_call 23; (with_reducible refine (delete_z _ Q4 hq).mono ?_); rintro e w5 ⟨rfl, q5, g5⟩; have L5 := Lib.hid (L4.out.cut g5 q5 rfl); clear q5 g5)
          | fail)
        go_roundw
        case rel => exact ⟨nl - 1, no + 1, _, _, ra4, rc4, _, _, rfl, rfl, by go_num, by omega, HPN, L5⟩
        case measure => simp [lenOf]; omega
    · obtain rfl : nl = 0 := by omega
      obtain rfl : no = n := by omega
      have h0d : decide (((0 : Nat) : Int) > 0) = false := decide_eq_false (by omega)
      have hle : left = [] := List.eq_nil_of_length_eq_zero hll.out
      have hpo : l.Perm other := by have h := HPM.out; rw [hle, List.nil_append] at h; exact h.symm
      obtain ⟨V2, hV2⟩ : ∃ V2, wayS head other = V2 := ⟨_, rfl⟩
      have HV2 : Hid (wayV head other = V2) := Lib.hid ((if_pos ⟨QH.out, HOKP.out _ hpo⟩).trans hV2)
      have HER2 : Hid (errH head other = 0) := Lib.hid (if_pos ⟨QH.out, HOKP.out _ hpo⟩)
      have d2 : decide (V ≤ V2) = true := decide_eq_true (by rw [← HWV.out, ← hV2]; exact short_least hpo)
      have OA := Lib.hid (Shape.At.own (S := shI) HB.out.o HB.out.ol)
      have R5 := Lib.hid (R2.out.step HB.out.b)
      have H5 := Lib.hid (H2.out.step HB.out.b)
      have B5 := Lib.hid (pstep B2.out HB.out.b)
      clear hle hpo hV2
      go_wp2_with (first
        | (go_at_call 9; (with_reducible refine (way_W head _ R6 HWN V3 HV3 0 HER3).mono ?_); rintro e wx ⟨rfl, rfl⟩)
        | (go_at_call 9; (with_reducible refine (way_W head _ R5 HSN V HV 0 HER).mono ?_); rintro e wx ⟨rfl, rfl⟩)
        | (go_at_call 9; (with_reducible refine (way_W head _ OA hol V2 HV2 0 HER2).mono ?_); rintro e wx ⟨rfl, rfl⟩)
        | (go_at_call 10; (with_reducible refine (sweep_N head _ H5 hn QH QL).mono ?_); rintro e w6 ⟨a6, c6, rfl, r6, b6⟩; have R6 := Lib.hid r6; have B6 := Lib.hid (pstep B5.out b6); clear r6 b6)
        | fail)
      go_ret
      exact ⟨rfl, B6.out⟩
theorem liftBest_walk (v0 v1 v2 : Value) (w : World) (g0 : ArgInt w v0) (g1 : ArgNums w v1) (g2 : ArgNums w v2) :
    Calls Try.prog 5 #[v0, v1, v2] w fun e w' => e = .returned (.bool true) ∧ Below w.heap.size w w' := by
  obtain ⟨head, rfl⟩ := g0
  obtain ⟨ad, cap, l, rfl, h1, _⟩ := g1
  obtain ⟨pd, pc, ps, rfl, h2, _⟩ := g2
  by_cases q : okH head ∧ okL l
  · exact best_ok head w (Lib.hid h1) (Lib.hid rfl) (Lib.hid h2) (Lib.hid rfl) (Lib.hid q.1) (Lib.hid q.2)
  · exact best_no head w (Lib.hid h1) (Lib.hid rfl) (Lib.hid h2) (Lib.hid rfl) (Lib.hid q)
end Go.Proofs.Yteabdbgllafafaa
