/- RunqFirst: who comes at the greatest level at the front is taken first; who comes at the least at the end stands behind all. -/
import Derived.Test.YtgnpodeneknpdaaRDrop
import Derived.Test.YtgnpodeneknpdaaInsI
namespace Go.Proofs.Ytgnpodeneknpdaa
open Go.RowKit

section
variable {P : Program} {w : World}
/-- 'append' under a guard that lets it. -/
theorem wpList_append_ng {α : Type} (S : Shape α) {ops : Array Oper} {rest : List Oper} {o : Oper} {a : Act} {Q : Exit → Act → World → Prop} (hw : Region.wanted o (yielded ops a.tmps) = true) (s x : Operand) (t : TypeId)
    (ho : o.op = .call { callee := .builtin .append, args := #[s, x], argTypes := #[t, t] })
    (base : Nat) (e : TypeId) (i : TypeInfo) (z : Value) (bytes : Nat) (ht : P.underlying t = some (.slice e)) (hi : P.info? e = some i) (hz : i.zero = some z)
    (hsize : i.size = S.size) (hby : i.bytes = bytes) (hzs : z.cells.size = S.size) (v : Value) (n : Nat) (xs ys : List α) (hn : Hid (xs.length = n)) (hs : a.eval s = v) (hown : w.ownsRow base e S.size v n (S.flat xs)) (sa : Option Addr) (m c : Nat) (hx : a.eval x = .slice sa m c) (hm : Hid (ys.length = m)) (hy : S.At w sa c ys)
    (h63 : n + m ≤ maxLen) (hbytes : (n + m) * bytes ≤ 140737488355328) (hbase : base ≤ w.heap.size)
    (h : ∀ ra rc w', w'.ownsRow base e S.size (.slice ra (n + m) rc) (n + m) (S.flat (xs ++ ys)) → w.grownBy w' v.ownBlock → (∀ g, (Value.slice ra (n + m) rc).ownBlock = some g → v.ownBlock = some g ∨ g = w.heap.size) → wpList P ops Q rest (a.put o.dst (.slice ra (n + m) rc)) w') : wpList P ops Q (o :: rest) a w := by
  refine wpList_step fun K hK => ?_
  rw [if_pos hw]
  have e1 := hn.out
  have e2 := hm.out
  subst e1 e2
  obtain ⟨ra, rc, w', hr, h2, h3, h4⟩ := run_append_at (P := P) S base t o.type _ i z bytes ht hi hz hsize hby hzs v xs ys hown sa c hy h63 hbytes hbase
  unfold Oper.wp execOp
  simp only [ho, resolve, invoke, builtin, Sem.run_bind, Sem.run_pure, Result.andThen_ok, List.map_toArray, List.map_cons, List.map_nil, hs, hx, hr]
  exact hK _ _ (h ra rc w' h2 h3 h4)
end
theorem insi_zero (xs : List Int) (v0 : Int) (n c vb base : Nat) (w : World) (sa : Option Addr) (HV : Hid (w.heap[vb]? = some (.cells #[.int .i64 v0] 3 (0, 0)))) (H1 : Hid (xs.length = n)) (hn : n ≤ 10000000000000) (hbase : base ≤ w.heap.size) (HO : Hid (w.ownsRow base 3 1 (.slice sa n c) n (shI.flat xs))) (hvb : ∀ g, (Value.slice sa n c).ownBlock = some g → vb ≠ g) :
    Calls Try.prog 17 #[.slice sa n c, .int .i64 0, .slice (some ⟨vb, 0, none⟩) 1 1] w fun e w' => InsOut shI base 3 w (.slice sa n c) ([v0] ++ xs) (n + 1) e w' :=
  insi_any xs v0 n c 0 vb base w sa HV H1 hn hbase HO (Nat.zero_le _) hvb
section
variable {ad : Option Addr} {cap n : Nat} {ops : List RuT}
set_option maxHeartbeats 4000000 in
set_option maxRecDepth 100000 in
theorem first_ok (id : Int) (w : World) (HA : Hid (shR.At w ad cap ops)) (hm : Hid (ops.length = n)) (hn9 : n ≤ 5864062014634) (HW : Hid (∀ o ∈ ops, WfI o.i)) (HWI : Hid (WfI id)) :
    Calls Try.prog 5 #[.slice ad n cap, .int .i64 id] w fun e w' => e = .returned (.bool true) ∧ Below w.heap.size w w' := by
  obtain ⟨i0, hi, hz0, hz1, hz2⟩ := info_parts info_ru
  obtain ⟨j0, hj, hy0, hy1, hy2⟩ := info_parts info_int
  obtain ⟨s, hs⟩ : ∃ s, runU newU ops = s := ⟨_, rfl⟩
  obtain ⟨es, hes⟩ : ∃ es, errsU newU ops = es := ⟨_, rfl⟩
  have hsz := run_sizes hs
  rw [hm.out] at hsz
  obtain ⟨tl, htl⟩ : ∃ tl, s.taken.length = tl := ⟨_, rfl⟩
  obtain ⟨ll, hll⟩ : ∃ ll, s.list.length = ll := ⟨_, rfl⟩
  rw [htl, hll] at hsz
  have HP1 := Lib.hid (fun X (HX : Hid (shR.At X ad cap ops)) => play_res hm (by omega) HW (Lib.hid hes) (Lib.hid hs) (Lib.hid htl) (Lib.hid hll) ad cap X HX)
  unfold PlayN at HP1
  have HLL : Hid ((leftU s).length = ll) := Lib.hid (by rw [left_len, hll])
  have hlb : ll ≤ 9223372036854775807 := by omega
  have hl9 : ll ≤ 10000000000000 := by omega
  have hgs : GoodU s := by rw [← hs]; exact good_runU good_newU
  by_cases hin : id ∈ leftU s
  · have HBI : Hid (true = decide (id ∈ leftU s)) := Lib.hid (decide_eq_true hin).symm
    clear hs hes htl hll hgs hin hsz
    go_enter Try.func5, Try.ntmps5
    go_wp2_with (first
      | (go_at_call 13; (with_reducible refine (alive13_N _).mono ?_); rintro e w1 ⟨rfl, hb⟩; have B1 := Lib.hid hb; have A1 := Lib.hid (HA.out.step hb); clear hb)
      | (go_at_call 9; (with_reducible refine (HP1.out _ A1).mono ?_); rintro e w2 ⟨E, ta, tc, la, lc, rfl, _, _, hL, hb⟩; have B2 := Lib.hid (pstep B1.out hb); have L2 := Lib.hid hL; clear hb hL)
      | (go_at_call 16; (with_reducible refine (contains_Q id _ L2 HLL hlb true HBI).mono ?_); rintro e w3 ⟨rfl, rfl⟩)
      | fail)
    go_ret
    exact ⟨rfl, B2.out⟩
  · have HBI : Hid (false = decide (id ∈ leftU s)) := Lib.hid (decide_eq_false hin).symm
    have hh : heldU s id = false := by
      cases hq : heldU s id with
      | false => rfl
      | true => exact absurd (heldU_mem.1 hq) hin
    have h2 := first_head hgs hh
    have h1 := first_tail hgs hh
    have hsH : runU newU (ops ++ [⟨2, id, 31⟩]) = ⟨(id, 31) :: s.list, s.taken⟩ := by rw [runU_one, hs, h2]
    have hsT : runU newU (ops ++ [⟨1, id, 0⟩]) = ⟨s.list ++ [(id, 0)], s.taken⟩ := by rw [runU_one, hs, h1]
    have HMH : Hid ((ops ++ [(⟨2, id, 31⟩ : RuT)]).length = n + 1) := Lib.hid (by rw [List.length_append, hm.out]; rfl)
    have HMT : Hid ((ops ++ [(⟨1, id, 0⟩ : RuT)]).length = n + 1) := Lib.hid (by rw [List.length_append, hm.out]; rfl)
    have HWH : Hid (∀ o ∈ ops ++ [(⟨2, id, 31⟩ : RuT)], WfI o.i) := Lib.hid fun o ho => by
      rcases List.mem_append.1 ho with h | h
      · exact HW.out o h
      · rw [List.mem_singleton] at h; rw [h]; exact HWI.out
    have HWT : Hid (∀ o ∈ ops ++ [(⟨1, id, 0⟩ : RuT)], WfI o.i) := Lib.hid fun o ho => by
      rcases List.mem_append.1 ho with h | h
      · exact HW.out o h
      · rw [List.mem_singleton] at h; rw [h]; exact HWI.out
    have hlH : ((id, (31 : Int)) :: s.list).length = ll + 1 := by rw [List.length_cons, hll]
    have hlT : (s.list ++ [(id, (0 : Int))]).length = ll + 1 := by rw [List.length_append, hll]; rfl
    have HPH := Lib.hid (fun (ra : Option Addr) (rc : Nat) X (HX : Hid (shR.At X ra rc (ops ++ [⟨2, id, 31⟩]))) => play_res HMH (by omega) HWH (Lib.hid rfl) (Lib.hid hsH) (tl := tl) (ll := ll + 1) (Lib.hid htl) (Lib.hid hlH) ra rc X HX)
    have HPT := Lib.hid (fun (ra : Option Addr) (rc : Nat) X (HX : Hid (shR.At X ra rc (ops ++ [⟨1, id, 0⟩]))) => play_res HMT (by omega) HWT (Lib.hid rfl) (Lib.hid hsT) (tl := tl) (ll := ll + 1) (Lib.hid htl) (Lib.hid hlT) ra rc X HX)
    unfold PlayN at HPH HPT
    have HLH : Hid (leftU ⟨(id, 31) :: s.list, s.taken⟩ = [id] ++ leftU s) := Lib.hid rfl
    have HLT : Hid (leftU ⟨s.list ++ [(id, 0)], s.taken⟩ = leftU s ++ [id]) := Lib.hid (by simp [leftU])
    have HL1 : Hid (([id] ++ leftU s).length = ll + 1) := Lib.hid (by rw [List.length_append, HLL.out]; simp; omega)
    have HL2 : Hid ((leftU s ++ [id]).length = ll + 1) := Lib.hid (by rw [List.length_append, HLL.out]; rfl)
    have hl1b : ll + 1 ≤ 9223372036854775807 := by omega
    clear hs hes htl hll hgs hin hsz hh h1 h2 hsH hsT hlH hlT
    go_enter Try.func5, Try.ntmps5
    go_upto_region 8 with (first
      | (go_at_call 13; (with_reducible refine (alive13_N _).mono ?_); rintro e w1 ⟨rfl, hb⟩; have B1 := Lib.hid hb; have A1 := Lib.hid (HA.out.step hb); clear hb)
      | (go_at_call 9; (with_reducible refine (HP1.out _ A1).mono ?_); rintro e w2 ⟨E, ta, tc, la, lc, rfl, _, _, hL, hb⟩; have B2 := Lib.hid (pstep B1.out hb); have L2 := Lib.hid hL; have A2 := Lib.hid (A1.out.step hb); clear hb hL)
      | (go_at_call 16; (with_reducible refine (contains_Q id _ L2 HLL hlb false HBI).mono ?_); rintro e w3 ⟨rfl, rfl⟩)
      | (go_at_call 14; (with_reducible refine (clone_R ops ad n cap _ hm A2 hn9).mono ?_); rintro e w3 ⟨ra3, rc3, rfl, own, hb⟩; have bx := below_alloc w3 (.cells #[.int .i64 2, .int .i64 id, .int .i64 31] 34); have O3 := Lib.hid (own_step own bx); have B3 := Lib.hid (pstep (pstep B2.out hb) bx); have L3 := Lib.hid ((L2.out.step hb).step bx); have A3 := Lib.hid ((A2.out.step hb).step bx); have N3 := Lib.hid (ru_oneAt w3 ⟨2, id, 31⟩ 1); have hs3 : w2.heap.size ≤ (w3.alloc (.cells #[.int .i64 2, .int .i64 id, .int .i64 31] 34)).heap.size := Nat.le_trans hb.size bx.size; clear hb own bx)
      | (at_builtin; refine wpList_append_n shR rfl _ _ 22 rfl w2.heap.size 34 i0 _ 24 Try.underlying22 hi hz0 hz1 hz2 rfl (.slice ra3 n rc3) n ops [⟨2, id, 31⟩] hm rfl O3.out (some ⟨w3.heap.size, 0, none⟩) 1 1 rfl (Lib.hid rfl) N3.out (by unfold maxLen; omega) (by omega) hs3 ?_; intro ra4 rc4 w4 own4 grow4 _; have P4 := Lib.hid (Shape.At.own (S := shR) own4 HMH.out); have B4 := Lib.hid (B3.out.grown grow4 B3.out.size (fun _ hq => Nat.le_trans B2.out.size (own_lt O3.out hq).1)); have L4 := Lib.hid (L3.out.same_grown O3.out grow4 L2.out); have A4 := Lib.hid (A3.out.same_grown O3.out grow4 A2.out); clear own4 grow4)
      | (go_at_call 9; (with_reducible refine (HPH.out ra4 rc4 _ P4).mono ?_); rintro e w5 ⟨E5, ta5, tc5, la5, lc5, rfl, _, _, hL, hb⟩; rw [HLH.out] at hL; have B5 := Lib.hid (pstep B4.out hb); have L5 := Lib.hid (L4.out.step hb); have A5 := Lib.hid (A4.out.step hb); have H5 := Lib.hid hL; clear hb hL)
      | (go_at_call 14; (with_reducible refine (clone_R ops ad n cap _ hm A5 hn9).mono ?_); rintro e w6 ⟨ra6, rc6, rfl, own, hb⟩; have bx := below_alloc w6 (.cells #[.int .i64 1, .int .i64 id, .int .i64 0] 34); have O6 := Lib.hid (own_step own bx); have B6 := Lib.hid (pstep (pstep B5.out hb) bx); have L6 := Lib.hid ((L5.out.step hb).step bx); have H6 := Lib.hid ((H5.out.step hb).step bx); have N6 := Lib.hid (ru_oneAt w6 ⟨1, id, 0⟩ 1); have hs6 : w5.heap.size ≤ (w6.alloc (.cells #[.int .i64 1, .int .i64 id, .int .i64 0] 34)).heap.size := Nat.le_trans hb.size bx.size; clear hb own bx)
      | (at_builtin; refine wpList_append_n shR rfl _ _ 22 rfl w5.heap.size 34 i0 _ 24 Try.underlying22 hi hz0 hz1 hz2 rfl (.slice ra6 n rc6) n ops [⟨1, id, 0⟩] hm rfl O6.out (some ⟨w6.heap.size, 0, none⟩) 1 1 rfl (Lib.hid rfl) N6.out (by unfold maxLen; omega) (by omega) hs6 ?_; intro ra7 rc7 w7 own7 grow7 _; have P7 := Lib.hid (Shape.At.own (S := shR) own7 HMT.out); have B7 := Lib.hid (B6.out.grown grow7 B6.out.size (fun _ hq => Nat.le_trans B5.out.size (own_lt O6.out hq).1)); have L7 := Lib.hid (L6.out.same_grown O6.out grow7 L5.out); have H7 := Lib.hid (H6.out.same_grown O6.out grow7 H5.out); clear own7 grow7)
      | (go_at_call 9; (with_reducible refine (HPT.out ra7 rc7 _ P7).mono ?_); rintro e w8 ⟨E8, ta8, tc8, la8, lc8, rfl, _, _, hL, hb⟩; rw [HLT.out] at hL; have B8 := Lib.hid (pstep B7.out hb); have L8 := Lib.hid (L7.out.step hb); have H8 := Lib.hid (H7.out.step hb); have T8 := Lib.hid hL; clear hb hL)
      | fail)
    clear HP1 HPH HPT hi hz0 hz1 hz2 A1 A2 A3 A4 A5 L2 L3 L4 L5 L6 L7 H5 H6 H7 P4 P7 O3 O6 N3 N6 hs3 hs6
    go_wp2_with (first
      | (go_at_call 18; (with_reducible refine (clone_I (leftU s) la ll lc _ HLL L8 hl9).mono ?_); rintro e w9 ⟨ra9, rc9, rfl, own, hb⟩; have bx := below_alloc w9 (.cells #[.int .i64 id] 3); have O9 := Lib.hid (own_step own bx); have B9 := Lib.hid (pstep (pstep B8.out hb) bx); have L9 := Lib.hid ((L8.out.step hb).step bx); have H9 := Lib.hid ((H8.out.step hb).step bx); have T9 := Lib.hid ((T8.out.step hb).step bx); have N9 := Lib.hid (heap_alloc_new w9 (.cells #[.int .i64 id] 3)); have hs9 : w8.heap.size ≤ (w9.alloc (.cells #[.int .i64 id] 3)).heap.size := Nat.le_trans hb.size bx.size; have hvb : ∀ g, (Value.slice ra9 ll rc9).ownBlock = some g → w9.heap.size ≠ g := (fun g hg e => by have := (own_lt own hg).2; omega); clear hb own bx)
      | (go_at_call 17; (with_reducible refine (insi_zero (leftU s) id ll rc9 w9.heap.size w8.heap.size _ ra9 N9 HLL hl9 hs9 O9 hvb).mono ?_); rintro e w10 ⟨ra10, rc10, rfl, own10, grow10, _⟩; have P10 := Lib.hid (Shape.At.own (S := shI) own10 HL1.out); have B10 := Lib.hid (B9.out.grown grow10 B9.out.size (fun _ hq => Nat.le_trans B8.out.size (own_lt O9.out hq).1)); have L10 := Lib.hid (L9.out.same_grown O9.out grow10 L8.out); have H10 := Lib.hid (H9.out.same_grown O9.out grow10 H8.out); have T10 := Lib.hid (T9.out.same_grown O9.out grow10 T8.out); clear own10 grow10)
      | (go_at_call 12; (with_reducible refine (equalI _ HL1 H10 P10 hl1b).mono ?_); rintro e w11 ⟨rfl, hb⟩; have B11 := Lib.hid (pstep B10.out hb); have L11 := Lib.hid (L10.out.step hb); have T11 := Lib.hid (T10.out.step hb); clear hb)
      | (go_at_call 18; (with_reducible refine (clone_I (leftU s) la ll lc _ HLL L11 hl9).mono ?_); rintro e w12 ⟨ra12, rc12, rfl, own, hb⟩; have bx := below_alloc w12 (.cells #[.int .i64 id] 3); have O12 := Lib.hid (own_step own bx); have B12 := Lib.hid (pstep (pstep B11.out hb) bx); have T12 := Lib.hid ((T11.out.step hb).step bx); have N12 := Lib.hid (int_lit w12 id 1); have hs12 : w11.heap.size ≤ (w12.alloc (.cells #[.int .i64 id] 3)).heap.size := Nat.le_trans hb.size bx.size; clear hb own bx)
      | (at_builtin; refine wpList_append_ng shI rfl _ _ 24 rfl w11.heap.size 3 j0 _ 8 Try.underlying24 hj hy0 hy1 hy2 rfl (.slice ra12 ll rc12) ll (leftU s) [id] HLL rfl O12.out (some ⟨w12.heap.size, 0, none⟩) 1 1 rfl (Lib.hid rfl) N12.out (by unfold maxLen; omega) (by omega) hs12 ?_; intro ra13 rc13 w13 own13 grow13 _; have P13 := Lib.hid (Shape.At.own (S := shI) own13 HL2.out); have B13 := Lib.hid (B12.out.grown grow13 B12.out.size (fun _ hq => Nat.le_trans B11.out.size (own_lt O12.out hq).1)); have T13 := Lib.hid (T12.out.same_grown O12.out grow13 T11.out); clear own13 grow13)
      | (go_at_call 12; (with_reducible refine (equalI _ HL2 T13 P13 hl1b).mono ?_); rintro e w14 ⟨rfl, hb⟩; have B14 := Lib.hid (pstep B13.out hb); clear hb)
      | fail)
    go_ret
    exact ⟨rfl, B14.out⟩
end
theorem runqFirst_walk (v v1 : Value) (w : World) (h : ArgRus w v) (h1 : ArgInt w v1) (u : lenOf v ≤ 5864062014634) : Calls Try.prog 5 #[v, v1] w fun e w' => e = .returned (.bool true) ∧ Below w.heap.size w w' := by
  obtain ⟨a1, c1, l, rfl, hA, hwf, _, _⟩ := h
  obtain ⟨id, rfl, hid⟩ := h1
  exact first_ok id w (Lib.hid hA) (Lib.hid rfl) u (Lib.hid hwf) (Lib.hid hid)
end Go.Proofs.Ytgnpodeneknpdaa
