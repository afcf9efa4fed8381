/- RingOrder: the walk. -/
import Derived.Test.YtipkmmajhhcadaaRngF
import Derived.Test.YtipkmmajhhcadaaRngO
namespace Go.Proofs.Ytipkmmajhhcadaa
open Go.RowKit

theorem res_tells {n : Nat} {cs : List CeR} {g t k : Nat} {s : StG} (h : RiR.Tells n ⟨cs, g, t, k⟩ s) (hn : n ≤ 64) (o : RoT) : resS n cs (g : Int) (t : Int) (k : Int) o = if errG n s o = 0 then (doS n ⟨cs, g, t, k⟩ o, gotG s o, 0) else (zeroR, 0, errG n s o) := by
  unfold resS
  rw [if_pos (tells_rgt h hn)]
  simp only [Int.toNat_natCast]
  rw [err_tie h o]
  by_cases he : errG n s o = 0
  · rw [if_pos he, if_pos he, (do_tie h o he).2]
  · rw [if_neg he, if_neg he]
theorem taken_all (s : StG) : s.taken.length ≤ (allG s).length := by
  unfold allG
  simp only [List.length_append]
  omega
theorem all_drop (n : Nat) (s : StG) {o : RoT} (h : ¬ o.k = 1) : allG (stepG n s o) = allG s := by
  rw [all_stepG, if_neg (fun q => h q.2), List.append_nil]
theorem all_drain (n : Nat) (s : StG) : ∀ i, allG (runG n s (drainG i)) = allG s
  | 0 => rfl
  | i + 1 => by
    rw [drain_next, round_two, all_drop n _ (show ¬ (3 : Int) = 1 by decide), all_drop n _ (show ¬ (2 : Int) = 1 by decide), all_drain n s i]
/-- Inside a round. -/
def stI (n : Nat) (s : StG) : Nat → StG
  | 0 => s
  | 1 => stepG n s ⟨2, 0⟩
  | _ => runG n s roundG
theorem all_stI (n : Nat) (s : StG) : ∀ c, allG (stI n s c) = allG s
  | 0 => rfl
  | 1 => all_drop n _ (show ¬ (2 : Int) = 1 by decide)
  | c + 2 => by
    show allG (runG n s roundG) = _
    rw [round_two, all_drop n _ (show ¬ (3 : Int) = 1 by decide), all_drop n _ (show ¬ (2 : Int) = 1 by decide)]
/-- What is in memory. -/
structure LpG (w wr : World) (U E m n : Nat) (ra : Option Addr) (rc : Nat) (cs : List CeR) (g t k : Nat) (es : List Int) (tv : Value) (a : Nat) (tk : List Int) (gv : Value) (G : Nat) (gs : List Int) : Prop where
  b : Below w.heap.size w wr
  u : wr.heap[U]? = some (.cells #[.slice ra n rc, .int .i64 (g : Nat), .int .i64 (t : Nat), .int .i64 (k : Nat)] tR (0, 0))
  lu : w.heap.size ≤ U
  q : Que shCe wr w.heap.size tC (.slice ra n rc) n cs
  e : ErrRow wr E m es
  t : Que shI wr w.heap.size tI tv a tk
  gq : Que shI wr w.heap.size tI gv G gs
  ap : ∀ x, tv.ownBlock = some x → ¬ gv.ownBlock = some x
section
variable {w wr wy : World} {U E m n : Nat} {ra : Option Addr} {rc : Nat} {cs : List CeR} {g t k : Nat} {es : List Int} {tv : Value} {a : Nat} {tk : List Int} {gv : Value} {G : Nat} {gs : List Int}
theorem LpG.step (h : LpG w wr U E m n ra rc cs g t k es tv a tk gv G gs) (hb : Below wr.heap.size wr wy) : LpG w wy U E m n ra rc cs g t k es tv a tk gv G gs :=
  ⟨pstep h.b hb, heap_step h.u hb, h.lu, que_step h.q hb, h.e.same (hb.block _ h.e.lt), que_step h.t hb, que_step h.gq hb, h.ap⟩
theorem row_q {B : Nat} {cur : Array Value} (h : Que shCe wr w.heap.size tC (.slice ra n rc) n cs) (hB : wr.heap[B]? = some (.cells cur tI (0, 0))) : ∀ x, (Value.slice ra n rc).ownBlock = some x → x ≠ B := que_ne h hB (by decide)
theorem que_blk {α : Type} {S : Shape α} {base N : Nat} {T : TypeId} {v : Value} {l : List α} (h : Que S wr base T v N l) {B : Nat} (hv : v.ownBlock = some B) : ∃ cur, wr.heap[B]? = some (.cells cur T (0, 0)) := by
  obtain ⟨ad, cap, hs, _, _, _, h1⟩ := que_shape h
  subst hs
  cases ad with
  | none => cases hv
  | some x =>
    obtain ⟨g, off, e, _⟩ := h1 x rfl
    subst e
    simp only [Value.ownBlock, Option.some.injEq] at hv
    subst hv
    exact que_block h
/-- One more was given. -/
theorem LpG.gave {gv' : Value} {G' : Nat} {gs' : List Int} (h : LpG w wr U E m n ra rc cs g t k es tv a tk gv G gs) (hg : wr.grownBy wy gv.ownBlock) (hq : Que shI wy w.heap.size tI gv' G' gs') (hf : ∀ x, gv'.ownBlock = some x → gv.ownBlock = some x ∨ wr.heap.size ≤ x) : LpG w wy U E m n ra rc cs g t k es tv a tk gv' G' gs' := by
  obtain ⟨cur, hc, _⟩ := h.e
  refine ⟨h.b.grown hg h.b.size (fun k hk => (que_lt h.gq hk).1), (hg.block _ (heap_lt h.u) (fun e => que_ne h.gq h.u (by decide) _ e.symm rfl)).trans h.u, h.lu, que_kept h.q hg (fun x hx e => ?_), h.e.same (hg.block _ h.e.lt (fun e => que_ne h.gq hc (by decide) _ e.symm rfl)), que_kept h.t hg (fun x hx e => h.ap x hx e.symm), hq, fun x hx hx' => ?_⟩
  · obtain ⟨cb, hB⟩ := que_blk h.q hx
    exact que_ne h.gq hB (by decide) _ e.symm rfl
  · rcases hf x hx' with e | e
    · exact h.ap x hx e
    · have := (que_lt h.t hx).2; omega
/-- One more was taken. -/
theorem LpG.took {tv' : Value} {a' : Nat} {tk' : List Int} (h : LpG w wr U E m n ra rc cs g t k es tv a tk gv G gs) (hg : wr.grownBy wy tv.ownBlock) (hq : Que shI wy w.heap.size tI tv' a' tk') (hf : ∀ x, tv'.ownBlock = some x → tv.ownBlock = some x ∨ wr.heap.size ≤ x) : LpG w wy U E m n ra rc cs g t k es tv' a' tk' gv G gs := by
  obtain ⟨cur, hc, _⟩ := h.e
  refine ⟨h.b.grown hg h.b.size (fun k hk => (que_lt h.t hk).1), (hg.block _ (heap_lt h.u) (fun e => que_ne h.t h.u (by decide) _ e.symm rfl)).trans h.u, h.lu, que_kept h.q hg (fun x hx e => ?_), h.e.same (hg.block _ h.e.lt (fun e => que_ne h.t hc (by decide) _ e.symm rfl)), hq, que_kept h.gq hg (fun x hx e => h.ap x e.symm hx), fun x hx hx' => ?_⟩
  · obtain ⟨cb, hB⟩ := que_blk h.q hx
    exact que_ne h.t hB (by decide) _ e.symm rfl
  · rcases hf x hx with e | e
    · exact h.ap x e hx'
    · have := (que_lt h.gq hx').2; omega
/-- The ring's box is written. -/
theorem LpG.put {ra' : Option Addr} {rc' : Nat} {cs' : List CeR} (h : LpG w wr U E m n ra rc cs g t k es tv a tk gv G gs) (hq : Que shCe wr w.heap.size tC (.slice ra' n rc') n cs') (g' t' k' : Nat) : LpG w ((((wr.setCell ⟨U, 0, none⟩ (.slice ra' n rc')).setCell ⟨U, 1, none⟩ (.int .i64 (g' : Nat))).setCell ⟨U, 2, none⟩ (.int .i64 (t' : Nat))).setCell ⟨U, 3, none⟩ (.int .i64 (k' : Nat))) U E m n ra' rc' cs' g' t' k' es tv a tk gv G gs := by
  obtain ⟨cur, hc, _⟩ := h.e
  have n2 := que_ne h.t h.u (by decide)
  have n3 := que_ne h.gq h.u (by decide)
  have hl := h.lu
  have h4 := fun j (hj : j ≠ U) => four_other wr (b := U) (k := j) (.slice ra' n rc') (.int .i64 (g' : Nat)) (.int .i64 (t' : Nat)) (.int .i64 (k' : Nat)) hj
  exact ⟨(((h.b.setCell hl _).setCell hl _).setCell hl _).setCell hl _, four_set h.u, h.lu, que_four hq (que_ne hq h.u (by decide)) _ _ _ _, h.e.same (h4 _ (err_ne h.e h.u (by decide)).symm),
    que_set (a := ⟨U, 3, none⟩) (que_set (a := ⟨U, 2, none⟩) (que_set (a := ⟨U, 1, none⟩) (que_set (a := ⟨U, 0, none⟩) h.t n2 _) n2 _) n2 _) n2 _,
    que_set (a := ⟨U, 3, none⟩) (que_set (a := ⟨U, 2, none⟩) (que_set (a := ⟨U, 1, none⟩) (que_set (a := ⟨U, 0, none⟩) h.gq n3 _) n3 _) n3 _) n3 _, h.ap⟩
end
set_option maxHeartbeats 4000000 in
set_option maxRecDepth 100000 in
theorem order_no {ad : Option Addr} {cap m : Nat} {ops : List RoT} (x : Int) (w : World) (HA : Hid (shRo.At w ad cap ops)) (hx : ¬ (2 ≤ x ∧ x ≤ 64)) : Calls Try.prog 5 #[.int .i64 x, .slice ad m cap] w fun e w' => e = .returned (.bool true) ∧ Below w.heap.size w w' := by
  go_enter Try.func5, Try.ntmps5
  go_wp2_with (first
    | (go_at_call 18; (with_reducible refine (alive18_N _).mono ?_); rintro e w1 ⟨rfl, hb⟩; have B1 := Lib.hid hb; have A1 := Lib.hid (HA.out.step hb); clear hb)
    | (go_at_call 15; (with_reducible refine (play_bad x _ hx).mono ?_); rintro e w2 ⟨rfl, hb⟩; have B2 := Lib.hid (pstep (pstep B1.out hb) (below_alloc w2 (.cells #[.slice none 0 0, .int .i64 0, .int .i64 0, .int .i64 0] 24))); clear hb)
    | fail)
  go_ret
  exact ⟨rfl, B2.out⟩
set_option maxHeartbeats 4000000 in
set_option maxRecDepth 100000 in
theorem order_yes {ad : Option Addr} {cap m : Nat} {ops : List RoT} (n N3 : Nat) (w : World) (HA : Hid (shRo.At w ad cap ops)) (hm : Hid (ops.length = m)) (hmb : m ≤ 8796093021952) (h2 : 2 ≤ n) (h64 : n ≤ 64) (hN3 : 3 * n = N3) (gs : List Int) (HGS : Hid (givenG n newG ops = gs)) (s0 : StG) (HS0 : Hid (runG n newG ops = s0)) (es : List Int) (HES : Hid (errsG n newG ops = es)) (A0 : Nat) (HA0 : Hid (s0.taken.length = A0)) (G0 : Nat) (HG0 : Hid (gs.length = G0)) (hAG : A0 ≤ G0) (HTG : Hid (gs.take A0 = s0.taken)) (HAL0 : Hid (allG s0 = gs)) (hGm : G0 ≤ m) (HFIN : Hid ((runG n s0 (drainG N3)).taken = gs)) : Calls Try.prog 5 #[.int .i64 (n : Nat), .slice ad m cap] w fun e w' => e = .returned (.bool true) ∧ Below w.heap.size w w' := by
  obtain ⟨j0, hj, hy0, hy1, hy2⟩ := info_parts info_int
  have x3 : IntKind.i64.wrap (3 * (n : Int)) = (N3 : Int) := by rw [IntKind.wrap_i64]; omega
  go_enter Try.func5, Try.ntmps5
  go_upto_region 4 with (first
    | (go_at_call 18; (with_reducible refine (alive18_N _).mono ?_); rintro e w1 ⟨rfl, hb⟩; have B1 := Lib.hid hb; have A1 := Lib.hid (HA.out.step hb); clear hb)
    | (go_at_call 15; (with_reducible refine (play_ok n _ h2 h64 A1 hm (by omega) s0 HS0 es HES A0 HA0).mono ?_); rintro e w2 ⟨E, ta, tc, ra, rc, cs, g, t, k, rfl, ht, _, h1, q2, q3, hb⟩; have HT2 := Lib.hid ht; have B2 := Lib.hid (pstep B1.out hb); have E2 := Lib.hid h1; have T2 := Lib.hid (que_base q2 B1.out.size); have Q2 := Lib.hid (que_base q3 B1.out.size); clear ht h1 q2 q3 hb)
    | fail)
  have HG : Hid (LpG w (w2.alloc (.cells #[.slice ra n rc, .int .i64 (g : Nat), .int .i64 (t : Nat), .int .i64 (k : Nat)] 24)) w2.heap.size E m n ra rc cs g t k es (.slice ta A0 tc) A0 s0.taken (.slice none 0 0) 0 []) := Lib.hid (by
    have bl := below_alloc w2 (.cells #[.slice ra n rc, .int .i64 (g : Nat), .int .i64 (t : Nat), .int .i64 (k : Nat)] 24)
    exact ⟨pstep B2.out bl, heap_alloc_new w2 _, B2.out.size, que_step Q2.out bl, E2.out.same (bl.block _ E2.out.lt), que_step T2.out bl, que_nil _ _ _ _, fun x _ hx => by cases hx⟩)
  clear B1 A1 B2 E2 T2 Q2
  generalize w2.alloc (.cells #[.slice ra n rc, .int .i64 (g : Nat), .int .i64 (t : Nat), .int .i64 (k : Nat)] 24) = w3 at HG ⊢
  generalize w2.heap.size = U at HG ⊢
  go_upto_region 8 with fail
  go_loopw [9, 45] (fun gv v wr => ∃ (i G : Nat) (ga : Option Addr) (gc : Nat), i ≤ m ∧ v = .int .i64 i ∧ gv = .slice ga G gc ∧ Hid (LpG w wr U E m n ra rc cs g t k es (.slice ta A0 tc) A0 s0.taken (.slice ga G gc) G (givenG n newG (ops.take i)))) (fun _ v _ => m - (intOf v).toNat)
  case atStart => exact ⟨0, 0, none, 0, Nat.zero_le _, rfl, rfl, HG⟩
  case round =>
    clear HG
    obtain ⟨i, G, ga, gc, hi, rfl, rfl, HL⟩ := hrel
    by_cases hlt : i < m
    · obtain ⟨⟨kd, d⟩, ho⟩ : ∃ o, ops[i]? = some o := ⟨ops[i]'(by rw [hm.out]; exact hlt), List.getElem?_eq_getElem _⟩
      have HNX := Lib.hid (givenG_next (n := n) ho newG)
      obtain ⟨b, off, rfl, hb, e0, e1⟩ := at_ro HA.out ho
      have g0 := (HL.out.b.cell (p := ⟨b, off + i * 2, none⟩) hb).trans e0
      have g1 := (HL.out.b.cell (p := ⟨b, off + i * 2 + 1, none⟩) hb).trans e1
      simp only at g0 g1
      have hbr : b < wr.heap.size := Nat.lt_of_lt_of_le hb HL.out.b.size
      have hGi : G ≤ i := by
        have h1 := given_len n (ops.take i) newG
        rw [que_len HL.out.gq, List.length_take] at h1
        omega
      obtain ⟨x, hx⟩ : ∃ x, errG n (runG n newG (ops.take i)) ⟨kd, d⟩ = x := ⟨_, rfl⟩
      have hes : es[i]? = some x := by rw [← HES.out, errsG_at newG ho, hx]
      rw [hx] at HNX
      have LA := Lib.hid (HL.out.step (below_alloc wr (.cells #[.int .i64 kd, .int .i64 d] 26)))
      have OA := Lib.hid (heap_alloc_new wr (.cells #[.int .i64 kd, .int .i64 d] 26))
      have cx := LA.out.e.get hes
      have lE := LA.out.e.lt
      have TA := pair_at OA.out
      have lO := heap_lt OA.out
      obtain ⟨gk, hgk⟩ : ∃ gk, givenG n newG (ops.take i) = gk := ⟨_, rfl⟩
      rw [hgk] at HNX HL LA
      clear e0 e1 ho hes hx hgk HL
      by_cases hx0 : x = 0
      · by_cases hk1 : kd = 1
        · subst hx0 hk1
          have hxr : bits .xor .i64 (if IntKind.i64.signed = true then -1 else 9223372036854775807) d = invR d := not_inv d
          have HN2 : Hid (givenG n newG (ops.take (i + 1)) = gk ++ [invR d]) := Lib.hid (by rw [HNX.out, if_pos ⟨rfl, rfl⟩])
          generalize invR d = iv at hxr HN2
          go_upto_region 11 with fail
          generalize wr.alloc (.cells #[.int .i64 1, .int .i64 d] 26) = wq at LA cx lE TA lO ⊢
          have L8 := Lib.hid (LA.out.step (below_alloc wq (.cells #[.int .i64 iv] 3)))
          have X8 := Lib.hid (int_lit wq iv 1)
          clear LA
          go_wp2_with (first
            | (at_builtin; refine wpList_append_que shI rfl _ _ 35 rfl w.heap.size 3 j0 _ 8 Try.underlying35 hj hy0 hy1 hy2 rfl (.slice ga G gc) G gk [iv] rfl L8.out.gq (some ⟨wq.heap.size, 0, none⟩) 1 1 rfl (Lib.hid rfl) X8.out (by unfold maxLen; omega) (by omega) L8.out.b.size ?_; intro ra9 rc9 w9 own9 grow9 new9; have L9 := Lib.hid (L8.out.gave grow9 own9 (fun g hg => (new9 g hg).imp id (fun e => by rw [e]; exact Nat.le_refl _))); clear own9 grow9 new9)
            | fail)
          go_roundw
          case rel => exact ⟨i + 1, G + 1, ra9, rc9, by omega, by go_num, rfl, Lib.hid (by rw [HN2.out]; exact L9.out)⟩
          case measure => simp [intOf]; omega
        · subst hx0
          have hkb : (kd == 1) = false := by simpa using hk1
          have HN2 : Hid (givenG n newG (ops.take (i + 1)) = gk) := Lib.hid (by rw [HNX.out, if_neg (fun q => hk1 q.2), List.append_nil])
          go_wp2_with fail
          go_roundw
          case rel => exact ⟨i + 1, G, ga, gc, by omega, by go_num, rfl, Lib.hid (by rw [HN2.out]; exact LA.out)⟩
          case measure => simp [intOf]; omega
      · have hxb : (x == 0) = false := by simpa using hx0
        have HN2 : Hid (givenG n newG (ops.take (i + 1)) = gk) := Lib.hid (by rw [HNX.out, if_neg (fun q => hx0 q.1), List.append_nil])
        go_wp2_with fail
        go_roundw
        case rel => exact ⟨i + 1, G, ga, gc, by omega, by go_num, rfl, Lib.hid (by rw [HN2.out]; exact LA.out)⟩
        case measure => simp [intOf]; omega
    · have him : m = i := by omega
      have e : ops.take i = ops := by rw [← him, ← hm.out, List.take_length]
      rw [e, HGS.out] at HL
      subst him
      obtain rfl : G0 = G := by rw [← HG0.out, que_len HL.out.gq]
      clear e hlt hi
      have GL := four_at HL.out.u
      have lU := heap_lt HL.out.u
      have AQ := Lib.hid (que_at HL.out.q)
      have HCL : Hid (cs.length = n) := Lib.hid HT2.out.len
      have HR : Hid (rgtR n cs (g : Int) (t : Int) (k : Int) = true) := Lib.hid (tells_rgt HT2.out h64)
      obtain ⟨_, _, hv, hgc, _, hnil, _⟩ := que_shape HL.out.gq
      simp only [Value.slice.injEq, true_and] at hv
      obtain ⟨rfl, rfl⟩ := hv
      have hgt : decide (G0 < A0) = false := decide_eq_false (by omega)
      have hAgc : A0 ≤ gc := by omega
      have hi1 : (A0 : Int) ≤ (gc : Int) := by omega
      have TT := Lib.hid (que_at HL.out.t)
      have HGT : Hid (shI.At wr ga gc s0.taken) := Lib.hid (by
        have h := (que_at HL.out.gq).take A0
        rw [HTG.out] at h
        exact h)
      have HLB := Lib.hid hnil
      have hA9 : A0 ≤ 9223372036854775807 := by omega
      clear hnil
      go_upto_region 16 with (first
        | (go_at_call 13; (with_reducible refine (right_W _ AQ HCL (g : Int) (t : Int) (k : Int) true HR).mono ?_); rintro e w4 ⟨rfl, hb⟩; have L4 := Lib.hid (HL.out.step hb); have T4 := Lib.hid (TT.out.step hb); have S4 := Lib.hid (HGT.out.step hb); clear hb)
        | (go_at_call 17; (with_reducible refine (equalI (n := A0) _ HA0 T4 S4 hA9).mono ?_); rintro e w5 ⟨rfl, hb⟩; have L5 := Lib.hid (L4.out.step hb); clear hb)
        | fail)
      clear L4 T4 S4 GL lU AQ HCL HR TT HGT HL
      go_loopw [6, 88] (fun tv v wr => ∃ (i a : Nat) (ta : Option Addr) (tc : Nat) (ra : Option Addr) (rc : Nat) (cs : List CeR) (g t k : Nat), i ≤ N3 ∧ v = .int .i64 i ∧ tv = .slice ta a tc ∧ Hid (LpG w wr U E m n ra rc cs g t k es (.slice ta a tc) a (runG n s0 (drainG i)).taken (.slice ga G0 gc) G0 gs) ∧ Hid (RiR.Tells n ⟨cs, g, t, k⟩ (runG n s0 (drainG i)))) (fun _ v _ => N3 - (intOf v).toNat)
      case atStart => exact ⟨0, A0, ta, tc, ra, rc, cs, g, t, k, Nat.zero_le _, rfl, rfl, L5, HT2⟩
      case round =>
        clear L5 HT2
        obtain ⟨i, a, ta, tc, ra, rc, cs, g, t, k, hi, rfl, rfl, HL, HT⟩ := hrel
        by_cases hlt : i < N3
        · obtain ⟨s1, hs1⟩ : ∃ s1, runG n s0 (drainG i) = s1 := ⟨_, rfl⟩
          have HAL : Hid (allG s1 = gs) := Lib.hid (by rw [← hs1, all_drain, HAL0.out])
          have HGL := HG0
          have HNXT : Hid (runG n s0 (drainG (i + 1)) = stI n s1 2) := Lib.hid (by rw [drain_next, hs1]; rfl)
          rw [hs1] at HL HT
          clear hs1
          go_upto_region 18 with fail
          have L1 := Lib.hid (HL.out.step (below_alloc wr (.cells #[.int .i64 2, .int .i64 3] 3)))
          have T1 := Lib.hid (heap_alloc_new wr (.cells #[.int .i64 2, .int .i64 3] 3))
          have P1 : Hid (∀ x, (Value.slice ta a tc).ownBlock = some x → ¬ x = wr.heap.size) := Lib.hid (fun x hx => by have := (que_lt HL.out.t hx).2; omega)
          generalize wr.alloc (.cells #[.int .i64 2, .int .i64 3] 3) = wx at L1 T1 ⊢
          generalize wr.heap.size = L at T1 P1 ⊢
          clear HL
          go_loopw [6, 92] (fun tv v wz => ∃ (c a : Nat) (ta : Option Addr) (tc : Nat) (ra : Option Addr) (rc : Nat) (cs : List CeR) (g t k : Nat), c ≤ 2 ∧ v = .int .i64 c ∧ tv = .slice ta a tc ∧ Hid (LpG w wz U E m n ra rc cs g t k es (.slice ta a tc) a (stI n s1 c).taken (.slice ga G0 gc) G0 gs) ∧ Hid (RiR.Tells n ⟨cs, g, t, k⟩ (stI n s1 c)) ∧ Hid (wz.heap[L]? = some (.cells #[.int .i64 2, .int .i64 3] tI (0, 0))) ∧ Hid (∀ x, (Value.slice ta a tc).ownBlock = some x → ¬ x = L)) (fun _ v _ => 2 - (intOf v).toNat)
          case atStart => exact ⟨0, a, ta, tc, ra, rc, cs, g, t, k, by decide, rfl, rfl, L1, HT, T1, P1⟩
          case round =>
            clear L1 HT T1 P1
            obtain ⟨c, a, ta, tc, ra, rc, cs, g, t, k, hc, rfl, rfl, HI, HTL, HLT, HAP⟩ := hrel
            by_cases hc0 : c = 0
            · subst hc0
              obtain ⟨sc, hsc⟩ : ∃ sc, stI n s1 0 = sc := ⟨_, rfl⟩
              have HNX : Hid (stI n s1 1 = stepG n sc ⟨2, 0⟩) := Lib.hid (by rw [← hsc]; rfl)
              rw [hsc] at HI HTL
              have hal : a ≤ m := by
                have h1 := taken_all sc
                rw [que_len HI.out.t, ← hsc, all_stI, HAL.out, HGL.out] at h1
                omega
              have HCL : Hid (cs.length = n) := Lib.hid HTL.out.len
              have AQ := Lib.hid (que_at HI.out.q)
              have GI := four_at HI.out.u
              have lI := heap_lt HI.out.u
              have c0 := (pair_at HLT.out).1
              have c1 := (pair_at HLT.out).2
              have lL := heap_lt HLT.out
              by_cases hx0 : errG n sc ⟨2, 0⟩ = 0
              · have HX := Lib.hid hx0
                obtain ⟨⟨cs', g', t', k'⟩, hr'⟩ : ∃ r', doS n ⟨cs, g, t, k⟩ ⟨2, 0⟩ = r' := ⟨_, rfl⟩
                obtain ⟨y, hy⟩ : ∃ y, gotG sc ⟨2, 0⟩ = y := ⟨_, rfl⟩
                have HRS : Hid (resS n cs (g : Int) (t : Int) (k : Int) ⟨2, 0⟩ = (⟨cs', g', t', k'⟩, y, 0)) := Lib.hid (by rw [res_tells HTL.out h64, if_pos HX.out, hr', hy])
                have hd1 := (do_tie HTL.out ⟨2, 0⟩ HX.out).1
                rw [hr'] at hd1
                have HD := Lib.hid hd1
                have HCL' : Hid (cs'.length = n) := Lib.hid hd1.len
                have HST : Hid (stepG n sc ⟨2, 0⟩ = doG sc ⟨2, 0⟩) := Lib.hid (by unfold stepG; rw [if_pos HX.out])
                have HTK : Hid ((doG sc ⟨2, 0⟩).taken = sc.taken) := Lib.hid (by rw [do_taken HX.out, if_neg (by show ¬ (2 : Int) = 3; decide), List.append_nil])
                clear hr' hy hd1 hsc hx0
                go_upto_region 22 with (first
                  | (go_at_call 8; (with_reducible refine (step_W _ AQ HCL (g : Int) (t : Int) (k : Int) 2 0 n cs' g' t' k' y 0 HRS HCL').mono ?_); rintro e w5 ⟨ra2, rc2, rfl, q5, hb⟩; have I5 := Lib.hid (HI.out.step hb); have Q5 := Lib.hid (que_base q5 HI.out.b.size); have L5 := Lib.hid (heap_step HLT.out hb); clear q5 hb)
                  | fail)
                have bl := below_alloc w5 (.cells #[.slice ra2 n rc2, .int .i64 (g' : Nat), .int .i64 (t' : Nat), .int .i64 (k' : Nat)] 24)
                have I6 := Lib.hid (I5.out.step bl)
                have Q6 := Lib.hid (que_step Q5.out bl)
                have L6 := Lib.hid (heap_step L5.out bl)
                have T6 := Lib.hid (heap_alloc_new w5 (.cells #[.slice ra2 n rc2, .int .i64 (g' : Nat), .int .i64 (t' : Nat), .int .i64 (k' : Nat)] 24))
                clear bl I5 Q5 L5 GI lI c0 c1 lL HLT HI
                generalize w5.alloc (.cells #[.slice ra2 n rc2, .int .i64 (g' : Nat), .int .i64 (t' : Nat), .int .i64 (k' : Nat)] 24) = w6 at I6 Q6 L6 T6 ⊢
                generalize w5.heap.size = T at T6 ⊢
                have G6 := four_at I6.out.u
                have K6 := four_at T6.out
                have F6 := fun i => frozen_of_row w6 U i _ _ I6.out.u
                have i6 := heap_lt I6.out.u
                have j6 := heap_lt T6.out
                go_upto_region 23 with fail
                have I7 := Lib.hid (I6.out.put Q6.out g' t' k')
                have L7 := Lib.hid ((four_other w6 (.slice ra2 n rc2) (.int .i64 (g' : Nat)) (.int .i64 (t' : Nat)) (.int .i64 (k' : Nat)) (b := U) (fun e => by have h1 := L6.out; rw [e, I6.out.u] at h1; simp at h1)).trans L6.out)
                generalize (((w6.setCell ⟨U, 0, none⟩ (.slice ra2 n rc2)).setCell ⟨U, 1, none⟩ (.int .i64 (g' : Nat))).setCell ⟨U, 2, none⟩ (.int .i64 (t' : Nat))).setCell ⟨U, 3, none⟩ (.int .i64 (k' : Nat)) = w7 at I7 L7 ⊢
                clear G6 K6 F6 i6 j6 I6 Q6 L6 T6
                go_wp2_with fail
                go_roundw
                case rel => exact ⟨1, a, ta, tc, ra2, rc2, cs', g', t', k', by decide, rfl, rfl, Lib.hid (by rw [HNX.out, HST.out, HTK.out]; exact I7.out), Lib.hid (by rw [HNX.out, HST.out]; exact HD.out), L7, HAP⟩
                case measure => simp [intOf]
              · have HRS : Hid (resS n cs (g : Int) (t : Int) (k : Int) ⟨2, 0⟩ = (⟨[], 0, 0, 0⟩, 0, errG n sc ⟨2, 0⟩)) := Lib.hid (by rw [res_tells HTL.out h64, if_neg hx0]; rfl)
                have HST : Hid (stepG n sc ⟨2, 0⟩ = sc) := Lib.hid (by unfold stepG; rw [if_neg hx0])
                obtain ⟨x, hx⟩ : ∃ x, errG n sc ⟨2, 0⟩ = x := ⟨_, rfl⟩
                rw [hx] at HRS hx0
                have hxb : (x != 0) = true := by simpa using hx0
                clear hx hsc hx0
                go_wp2_with (first
                  | (go_at_call 8; (with_reducible refine (step_W _ AQ HCL (g : Int) (t : Int) (k : Int) 2 0 0 [] 0 0 0 0 x HRS (Lib.hid rfl)).mono ?_); rintro e w5 ⟨ra2, rc2, rfl, q5, hb⟩; have I5 := Lib.hid (HI.out.step (hb.trans (Below.mono (below_alloc w5 (.cells #[.slice ra2 0 rc2, .int .i64 ((0 : Nat) : Int), .int .i64 ((0 : Nat) : Int), .int .i64 ((0 : Nat) : Int)] 24)) hb.size))); have L5 := Lib.hid (heap_step HLT.out (hb.trans (Below.mono (below_alloc w5 (.cells #[.slice ra2 0 rc2, .int .i64 ((0 : Nat) : Int), .int .i64 ((0 : Nat) : Int), .int .i64 ((0 : Nat) : Int)] 24)) hb.size))); clear q5 hb)
                  | fail)
                go_roundw
                case rel => exact ⟨1, a, ta, tc, ra, rc, cs, g, t, k, by decide, rfl, rfl, Lib.hid (by rw [HNX.out, HST.out]; exact I5.out), Lib.hid (by rw [HNX.out, HST.out]; exact HTL.out), L5, HAP⟩
                case measure => simp [intOf]
            by_cases hc1 : c = 1
            · subst hc1
              obtain ⟨sc, hsc⟩ : ∃ sc, stI n s1 1 = sc := ⟨_, rfl⟩
              have HNX : Hid (stI n s1 2 = stepG n sc ⟨3, 0⟩) := Lib.hid (by rw [← hsc]; rfl)
              rw [hsc] at HI HTL
              have hal : a ≤ m := by
                have h1 := taken_all sc
                rw [que_len HI.out.t, ← hsc, all_stI, HAL.out, HGL.out] at h1
                omega
              have HCL : Hid (cs.length = n) := Lib.hid HTL.out.len
              have AQ := Lib.hid (que_at HI.out.q)
              have GI := four_at HI.out.u
              have lI := heap_lt HI.out.u
              have c0 := (pair_at HLT.out).1
              have c1 := (pair_at HLT.out).2
              have lL := heap_lt HLT.out
              by_cases hx0 : errG n sc ⟨3, 0⟩ = 0
              · have HX := Lib.hid hx0
                obtain ⟨⟨cs', g', t', k'⟩, hr'⟩ : ∃ r', doS n ⟨cs, g, t, k⟩ ⟨3, 0⟩ = r' := ⟨_, rfl⟩
                obtain ⟨y, hy⟩ : ∃ y, gotG sc ⟨3, 0⟩ = y := ⟨_, rfl⟩
                have HRS : Hid (resS n cs (g : Int) (t : Int) (k : Int) ⟨3, 0⟩ = (⟨cs', g', t', k'⟩, y, 0)) := Lib.hid (by rw [res_tells HTL.out h64, if_pos HX.out, hr', hy])
                have hd1 := (do_tie HTL.out ⟨3, 0⟩ HX.out).1
                rw [hr'] at hd1
                have HD := Lib.hid hd1
                have HCL' : Hid (cs'.length = n) := Lib.hid hd1.len
                have HST : Hid (stepG n sc ⟨3, 0⟩ = doG sc ⟨3, 0⟩) := Lib.hid (by unfold stepG; rw [if_pos HX.out])
                have HTK : Hid ((doG sc ⟨3, 0⟩).taken = sc.taken ++ [y]) := Lib.hid (by rw [do_taken HX.out, if_pos rfl, hy])
                clear hr' hy hd1 hsc hx0
                go_upto_region 22 with (first
                  | (go_at_call 8; (with_reducible refine (step_W _ AQ HCL (g : Int) (t : Int) (k : Int) 3 0 n cs' g' t' k' y 0 HRS HCL').mono ?_); rintro e w5 ⟨ra2, rc2, rfl, q5, hb⟩; have I5 := Lib.hid (HI.out.step hb); have Q5 := Lib.hid (que_base q5 HI.out.b.size); have L5 := Lib.hid (heap_step HLT.out hb); clear q5 hb)
                  | fail)
                have bl := below_alloc w5 (.cells #[.slice ra2 n rc2, .int .i64 (g' : Nat), .int .i64 (t' : Nat), .int .i64 (k' : Nat)] 24)
                have I6 := Lib.hid (I5.out.step bl)
                have Q6 := Lib.hid (que_step Q5.out bl)
                have L6 := Lib.hid (heap_step L5.out bl)
                have T6 := Lib.hid (heap_alloc_new w5 (.cells #[.slice ra2 n rc2, .int .i64 (g' : Nat), .int .i64 (t' : Nat), .int .i64 (k' : Nat)] 24))
                clear bl I5 Q5 L5 GI lI c0 c1 lL HLT HI
                generalize w5.alloc (.cells #[.slice ra2 n rc2, .int .i64 (g' : Nat), .int .i64 (t' : Nat), .int .i64 (k' : Nat)] 24) = w6 at I6 Q6 L6 T6 ⊢
                generalize w5.heap.size = T at T6 ⊢
                have G6 := four_at I6.out.u
                have K6 := four_at T6.out
                have F6 := fun i => frozen_of_row w6 U i _ _ I6.out.u
                have i6 := heap_lt I6.out.u
                have j6 := heap_lt T6.out
                go_upto_region 23 with fail
                have I7 := Lib.hid (I6.out.put Q6.out g' t' k')
                have L7 := Lib.hid ((four_other w6 (.slice ra2 n rc2) (.int .i64 (g' : Nat)) (.int .i64 (t' : Nat)) (.int .i64 (k' : Nat)) (b := U) (fun e => by have h1 := L6.out; rw [e, I6.out.u] at h1; simp at h1)).trans L6.out)
                generalize (((w6.setCell ⟨U, 0, none⟩ (.slice ra2 n rc2)).setCell ⟨U, 1, none⟩ (.int .i64 (g' : Nat))).setCell ⟨U, 2, none⟩ (.int .i64 (t' : Nat))).setCell ⟨U, 3, none⟩ (.int .i64 (k' : Nat)) = w7 at I7 L7 ⊢
                clear G6 K6 F6 i6 j6 I6 Q6 L6 T6
                have I8 := Lib.hid (I7.out.step (below_alloc w7 (.cells #[.int .i64 y] 3)))
                have L8 := Lib.hid (heap_step L7.out (below_alloc w7 (.cells #[.int .i64 y] 3)))
                have X8 := Lib.hid (int_lit w7 y 1)
                have hL8 := heap_lt L7.out
                go_wp2_with (first
                  | (at_builtin; refine wpList_append_que shI rfl _ _ 35 rfl w.heap.size 3 j0 _ 8 Try.underlying35 hj hy0 hy1 hy2 rfl (.slice ta a tc) a sc.taken [y] rfl I8.out.t (some ⟨w7.heap.size, 0, none⟩) 1 1 rfl (Lib.hid rfl) X8.out (by unfold maxLen; omega) (by omega) I8.out.b.size ?_; intro ra9 rc9 w9 own9 grow9 new9; have I9 := Lib.hid (I8.out.took grow9 own9 (fun g hg => (new9 g hg).imp id (fun e => by rw [e]; exact Nat.le_refl _))); have L9 := Lib.hid ((grow9.block _ (heap_lt L8.out) (fun e => HAP.out L e.symm rfl)).trans L8.out); have HAP9 : Hid (∀ x, (Value.slice ra9 (a + 1) rc9).ownBlock = some x → ¬ x = L) := Lib.hid (fun x hx => by
                      rcases new9 x hx with e | e
                      · exact HAP.out x e
                      · rw [e]; simp only [World.size_alloc]; omega); clear own9 grow9 new9)
                  | fail)
                go_roundw
                case rel => exact ⟨2, a + 1, ra9, rc9, ra2, rc2, cs', g', t', k', by decide, rfl, rfl, Lib.hid (by rw [HNX.out, HST.out, HTK.out]; exact I9.out), Lib.hid (by rw [HNX.out, HST.out]; exact HD.out), L9, HAP9⟩
                case measure => simp [intOf]
              · have HRS : Hid (resS n cs (g : Int) (t : Int) (k : Int) ⟨3, 0⟩ = (⟨[], 0, 0, 0⟩, 0, errG n sc ⟨3, 0⟩)) := Lib.hid (by rw [res_tells HTL.out h64, if_neg hx0]; rfl)
                have HST : Hid (stepG n sc ⟨3, 0⟩ = sc) := Lib.hid (by unfold stepG; rw [if_neg hx0])
                obtain ⟨x, hx⟩ : ∃ x, errG n sc ⟨3, 0⟩ = x := ⟨_, rfl⟩
                rw [hx] at HRS hx0
                have hxb : (x != 0) = true := by simpa using hx0
                clear hx hsc hx0
                go_wp2_with (first
                  | (go_at_call 8; (with_reducible refine (step_W _ AQ HCL (g : Int) (t : Int) (k : Int) 3 0 0 [] 0 0 0 0 x HRS (Lib.hid rfl)).mono ?_); rintro e w5 ⟨ra2, rc2, rfl, q5, hb⟩; have I5 := Lib.hid (HI.out.step (hb.trans (Below.mono (below_alloc w5 (.cells #[.slice ra2 0 rc2, .int .i64 ((0 : Nat) : Int), .int .i64 ((0 : Nat) : Int), .int .i64 ((0 : Nat) : Int)] 24)) hb.size))); have L5 := Lib.hid (heap_step HLT.out (hb.trans (Below.mono (below_alloc w5 (.cells #[.slice ra2 0 rc2, .int .i64 ((0 : Nat) : Int), .int .i64 ((0 : Nat) : Int), .int .i64 ((0 : Nat) : Int)] 24)) hb.size))); clear q5 hb)
                  | fail)
                go_roundw
                case rel => exact ⟨2, a, ta, tc, ra, rc, cs, g, t, k, by decide, rfl, rfl, Lib.hid (by rw [HNX.out, HST.out]; exact I5.out), Lib.hid (by rw [HNX.out, HST.out]; exact HTL.out), L5, HAP⟩
                case measure => simp [intOf]
            obtain rfl : c = 2 := by omega
            have HI2 : Hid (LpG w wr U E m n ra rc cs g t k es (.slice ta a tc) a (runG n s0 (drainG (i + 1))).taken (.slice ga G0 gc) G0 gs) := Lib.hid (by rw [HNXT.out]; exact HI.out)
            have HT2 : Hid (RiR.Tells n ⟨cs, g, t, k⟩ (runG n s0 (drainG (i + 1)))) := Lib.hid (by rw [HNXT.out]; exact HTL.out)
            clear HI HTL HLT HAP
            go_wp2_with fail
            go_roundw
            case rel => exact ⟨i + 1, a, ta, tc, ra, rc, cs, g, t, k, by omega, by go_num, rfl, HI2, HT2⟩
            case measure => simp [intOf]; omega
        · obtain rfl : i = N3 := by omega
          rw [HFIN.out] at HL
          obtain rfl : a = G0 := by rw [← HG0.out, que_len HL.out.t]
          have T9 := Lib.hid (que_at HL.out.t)
          have S9 := Lib.hid (que_at HL.out.gq)
          have hG9 : a ≤ 9223372036854775807 := by omega
          clear hlt hi
          go_wp2_with (first
            | (go_at_call 17; (with_reducible refine (equalI (n := a) _ HG0 T9 S9 hG9).mono ?_); rintro e w9 ⟨rfl, hb⟩; have B9 := Lib.hid (pstep HL.out.b hb); clear hb)
            | fail)
          go_ret
          exact ⟨rfl, B9.out⟩
theorem ringOrder_walk (v v1 : Value) (w : World) (h : ArgInt w v) (h1 : ArgRos w v1) (hu : lenOf v1 ≤ 8796093021952) : Calls Try.prog 5 #[v, v1] w fun e w' => e = .returned (.bool true) ∧ Below w.heap.size w w' := by
  obtain ⟨x, rfl⟩ := h
  obtain ⟨ad, cap, ops, rfl, HA, _, _⟩ := h1
  by_cases hx : 2 ≤ x ∧ x ≤ 64
  · obtain ⟨n, rfl⟩ : ∃ n : Nat, x = n := ⟨x.toNat, by omega⟩
    have htg := taken_given n ops
    have hal := all_runG n ops newG
    have e0 : allG newG = [] := rfl
    rw [e0, List.nil_append] at hal
    obtain ⟨cs, g, t, k, hT⟩ := ring_run (ops := ops) (s := newG) (ring_new (n := n) (by omega))
    have hroom := hT.room
    exact order_yes n (3 * n) w (Lib.hid HA) (Lib.hid rfl) hu (by omega) (by omega) rfl _ (Lib.hid rfl) _ (Lib.hid rfl) _ (Lib.hid rfl) _ (Lib.hid rfl) _ (Lib.hid rfl) htg.1 (Lib.hid htg.2) (Lib.hid hal) (given_len n ops newG) (Lib.hid (order_all ops (3 * n) (by omega)))
  · exact order_no x w (Lib.hid HA) hx
end Go.Proofs.Ytipkmmajhhcadaa
