/- WaitFirst: who said so first is woken first. -/
import Derived.Test.YtghonbiiichedaaWNev
import Derived.Lib.MinMax
namespace Go.Proofs.Ytghonbiiichedaa
open Go.RowKit

/-- Which numbers are taken. -/
def stepF (l : List Int) (t : Int) : List Int := if t < 0 ∨ 63 < t ∨ t ∈ l then l else l ++ [t]
def pickF (c : List Int) : List Int := c.foldl stepF []
theorem pick_next {c : List Int} {k : Nat} {t : Int} (h : c[k]? = some t) : pickF (c.take (k + 1)) = stepF (pickF (c.take k)) t := by
  have e : c.take (k + 1) = c.take k ++ [t] := by rw [List.take_add_one, h]; rfl
  unfold pickF
  rw [e, List.foldl_append]
  rfl
structure OkF (l : List Int) : Prop where
  rng : ∀ t ∈ l, 0 ≤ t ∧ t ≤ 63
  nod : l.Pairwise fun x y => ¬ x = y
theorem ok_step {l : List Int} (h : OkF l) (t : Int) : OkF (stepF l t) := by
  unfold stepF
  split
  · exact h
  · rename_i hn
    refine ⟨fun x hx => ?_, ?_⟩
    · rcases List.mem_append.1 hx with h1 | h1
      · exact h.rng x h1
      · rw [List.mem_singleton] at h1
        omega
    · rw [List.pairwise_append]
      exact ⟨h.nod, List.pairwise_singleton _ _, fun a ha b hb e => by rw [List.mem_singleton] at hb; exact hn (Or.inr (Or.inr (by rw [← hb, ← e]; exact ha)))⟩
theorem ok_fold : ∀ (c l : List Int), OkF l → OkF (c.foldl stepF l)
  | [], _, h => h
  | t :: c, l, h => ok_fold c (stepF l t) (ok_step h t)
theorem ok_pick (c : List Int) : OkF (pickF c) := ok_fold c [] ⟨fun x h => (by cases h), List.Pairwise.nil⟩
theorem pick_len (c : List Int) : (pickF c).length ≤ 64 := names_len 64 (fun x hx => by have := (ok_pick c).rng x hx; omega) (ok_pick c).nod
theorem ups_next (l : List Int) (t : Int) : upsV (l ++ [t]) = upsV l ++ [⟨1, t⟩, ⟨3, t⟩] := by simp [upsV]
theorem ups_len (l : List Int) : (upsV l).length = 2 * l.length := by
  induction l with
  | nil => rfl
  | cons a r ih =>
    have e : upsV (a :: r) = ⟨1, a⟩ :: ⟨3, a⟩ :: upsV r := by simp [upsV]
    rw [e, List.length_cons, List.length_cons, ih, List.length_cons]
    omega
theorem rep_next (q : Nat) : List.replicate (q + 1) (⟨4, 0⟩ : WvT) = List.replicate q ⟨4, 0⟩ ++ [⟨4, 0⟩] := List.replicate_succ'
theorem own_keptW {w w' : World} {base e n size : Nat} {v : Value} {xs : List Value} (h : w.ownsRow base e size v n xs) {r : Option Nat} (hg : w.grownBy w' r) (hne : ∀ g, v.ownBlock = some g → some g ≠ r) : w'.ownsRow base e size v n xs :=
  own_heap h fun g _ hg' ho => (hg.block g (heap_lt ho) (hne g hg')).trans ho
section
variable {ad : Option Addr} {cap n : Nat} {c : List Int}
/-- What is in memory while the law gathers. -/
structure LpF (w1 wr : World) (l : List Int) (o : List WvT) (v u : Value) (ln on : Nat) : Prop where
  b : Below w1.heap.size w1 wr
  ll : l.length = ln
  lo : wr.ownsRow w1.heap.size 3 1 v ln (shI.flat l)
  ol : o.length = on
  oo : wr.ownsRow w1.heap.size 35 2 u on (shV.flat o)
section
variable {w1 wr wy : World} {l l' : List Int} {o o' : List WvT} {v u v' : Value} {ln on n' : Nat}
theorem LpF.step (h : LpF w1 wr l o v u ln on) (hb : Below wr.heap.size wr wy) : LpF w1 wy l o v u ln on := ⟨pstep h.b hb, h.ll, own_step h.lo hb, h.ol, own_step h.oo hb⟩
theorem LpF.growL (h : LpF w1 wr l o v u ln on) (hg : wr.grownBy wy v.ownBlock) (ho : wy.ownsRow w1.heap.size 3 1 v' n' (shI.flat l')) (hl : l'.length = n') : LpF w1 wy l' o v' u n' on :=
  ⟨h.b.grown hg h.b.size (fun _ hk => (own_lt h.lo hk).1), hl, ho, h.ol, own_keptW h.oo hg fun g hg' e => own_two h.lo h.oo (by decide) g e.symm hg'⟩
theorem LpF.growO (h : LpF w1 wr l o v u ln on) (hg : wr.grownBy wy u.ownBlock) (ho : wy.ownsRow w1.heap.size 35 2 v' n' (shV.flat o')) (hl : o'.length = n') : LpF w1 wy l o' v v' ln n' :=
  ⟨h.b.grown hg h.b.size (fun _ hk => (own_lt h.oo hk).1), h.ll, own_keptW h.lo hg fun g hg' e => own_two h.lo h.oo (by decide) g hg' e.symm, hl, ho⟩
end
set_option maxHeartbeats 4000000 in
set_option maxRecDepth 100000 in
theorem fst_walk (many : Int) (w : World) (HA : Hid (shI.At w ad cap c)) (hm : Hid (c.length = n)) (hn : n ≤ 9223372036854775807) :
    Calls Try.prog 6 #[.slice ad n cap, .int .i64 many] w fun e w' => e = .returned (.bool true) ∧ Below w.heap.size w w' := by
  obtain ⟨i0, hi, hz0, hz1, hz2⟩ := info_parts' info_wv
  obtain ⟨j0, hj, hy0, hy1, hy2⟩ := info_parts' info_int
  go_enter Try.func6, Try.ntmps6
  go_upto_region 6 with (first
    | (go_at_call 12; (with_reducible refine (alive15_N _).mono ?_); rintro e w1 ⟨rfl, hb⟩; have B1 := Lib.hid hb; have A1 := Lib.hid (HA.out.step hb); clear hb)
    | fail)
  go_loopw [5, 6, 17] (fun v u i wr => ∃ (k ln on : Nat) (la : Option Addr) (lc : Nat) (oa : Option Addr) (oc : Nat), k ≤ n ∧ i = .int .i64 k ∧ v = .slice la ln lc ∧ u = .slice oa on oc ∧ Hid (LpF w1 wr (pickF (c.take k)) (upsV (pickF (c.take k))) (.slice la ln lc) (.slice oa on oc) ln on)) (fun _ _ i _ => n - (intOf i).toNat)
  case atStart => exact ⟨0, 0, 0, none, 0, none, 0, Nat.zero_le _, rfl, rfl, rfl, Lib.hid ⟨Below.refl _ _, rfl, World.ownsRow_nil _ _ _ _, rfl, World.ownsRow_nil _ _ _ _⟩⟩
  case round =>
    obtain ⟨k, ln, on, la, lc, oa, oc, hk, rfl, rfl, rfl, HL⟩ := hrel
    have hl64 : ln ≤ 64 := by rw [← HL.out.ll]; exact pick_len _
    have ho128 : on ≤ 128 := by rw [← HL.out.ol, ups_len, HL.out.ll]; omega
    have hln9 : ln ≤ 9223372036854775807 := by omega
    by_cases hlt : k < n
    · obtain ⟨t, ht⟩ : ∃ t, c[k]? = some t := ⟨c[k]'(by rw [hm.out]; exact hlt), List.getElem?_eq_getElem _⟩
      have hnx := pick_next ht
      obtain ⟨b, off, rfl, hb, e0⟩ := at_int A1.out ht
      have g0 := (HL.out.b.cell (p := ⟨b, off + k, none⟩) hb).trans e0
      have hbr : b < wr.heap.size := Nat.lt_of_lt_of_le hb HL.out.b.size
      generalize pickF (c.take k) = l at HL hnx
      have HLA := Lib.hid (Shape.At.own (S := shI) HL.out.lo HL.out.ll)
      have HLL := Lib.hid HL.out.ll
      clear ht e0 hb
      by_cases h1 : t < 0
      · rw [show stepF l t = l from if_pos (Or.inl h1)] at hnx
        have HX := Lib.hid hnx
        clear hnx
        go_wp2_with fail
        go_roundw
        case rel => exact ⟨k + 1, ln, on, la, lc, oa, oc, by omega, by go_num, rfl, rfl, Lib.hid (by rw [HX.out]; exact HL.out)⟩
        case measure => simp [intOf]; omega
      by_cases h2 : 63 < t
      · rw [show stepF l t = l from if_pos (Or.inr (Or.inl h2))] at hnx
        have HX := Lib.hid hnx
        clear hnx
        go_wp2_with fail
        go_roundw
        case rel => exact ⟨k + 1, ln, on, la, lc, oa, oc, by omega, by go_num, rfl, rfl, Lib.hid (by rw [HX.out]; exact HL.out)⟩
        case measure => simp [intOf]; omega
      have d1 : decide (t < 0) = false := decide_eq_false h1
      have d2 : decide (63 < t) = false := decide_eq_false h2
      by_cases h3 : t ∈ l
      · rw [show stepF l t = l from if_pos (Or.inr (Or.inr h3))] at hnx
        have HX := Lib.hid hnx
        have HC : Hid (true = decide (t ∈ l)) := Lib.hid (decide_eq_true h3).symm
        clear hnx h3
        go_wp2_with (first
          | (go_at_call 13; (with_reducible refine (contains_Q _ _ HLA HLL hln9 true HC).mono ?_); rintro e w3 ⟨rfl, hw3⟩; subst hw3)
          | fail)
        go_roundw
        case rel => exact ⟨k + 1, ln, on, la, lc, oa, oc, by omega, by go_num, rfl, rfl, Lib.hid (by rw [HX.out]; exact HL.out)⟩
        case measure => simp [intOf]; omega
      · rw [show stepF l t = l ++ [t] from if_neg (fun h => by rcases h with h | h | h; exact h1 h; exact h2 h; exact h3 h)] at hnx
        have HX := Lib.hid hnx
        have HC : Hid (false = decide (t ∈ l)) := Lib.hid (decide_eq_false h3).symm
        have BA := below_alloc wr (.cells #[.int .i64 t] 3)
        have L3 := Lib.hid (HL.out.step BA)
        have X3 := Lib.hid (int_lit wr t 1)
        have hs3 : w1.heap.size ≤ (wr.alloc (.cells #[.int .i64 t] 3)).heap.size := L3.out.b.size
        have hm1 : Hid (([t] : List Int).length = 1) := Lib.hid rfl
        have hm2 : Hid (([⟨1, t⟩, ⟨3, t⟩] : List WvT).length = 2) := Lib.hid rfl
        have HOL := Lib.hid HL.out.ol
        clear hnx h3 BA
        go_wp2_with (first
          | (go_at_call 13; (with_reducible refine (contains_Q _ _ HLA HLL hln9 false HC).mono ?_); rintro e w3 ⟨rfl, hw3⟩; subst hw3)
          | (at_builtin; refine wpList_append_n shI rfl _ _ 24 rfl w1.heap.size 3 j0 _ 8 Try.underlying24 hj hy0 hy1 hy2 rfl (.slice la ln lc) ln l [t] HLL rfl L3.out.lo (some ⟨wr.heap.size, 0, none⟩) 1 1 rfl hm1 X3.out (by unfold maxLen; omega) (by omega) hs3 ?_; intro ra4 rc4 w4 own4 grow4 _; have l4 := L3.out.growL (l' := l ++ [t]) grow4 own4 (by rw [List.length_append, HLL.out]; rfl); have bx := below_alloc w4 (.cells #[.int .i64 1, .int .i64 t, .int .i64 3, .int .i64 t] 35); have L4 := Lib.hid (l4.step bx); have X4 := Lib.hid (wv_twoAt w4 ⟨1, t⟩ ⟨3, t⟩ 2); have hs4 : w1.heap.size ≤ (w4.alloc (.cells #[.int .i64 1, .int .i64 t, .int .i64 3, .int .i64 t] 35)).heap.size := (l4.step bx).b.size; clear own4 grow4 l4 bx)
          | (at_builtin; refine wpList_append_n shV rfl _ _ 22 rfl w1.heap.size 35 i0 _ 16 Try.underlying22 hi hz0 hz1 hz2 rfl (.slice oa on oc) on (upsV l) [⟨1, t⟩, ⟨3, t⟩] HOL rfl L4.out.oo (some ⟨w4.heap.size, 0, none⟩) 2 2 rfl hm2 X4.out (by unfold maxLen; omega) (by omega) hs4 ?_; intro ra5 rc5 w5 own5 grow5 _; have L5 := Lib.hid (L4.out.growO (o' := upsV l ++ [(⟨1, t⟩ : WvT), ⟨3, t⟩]) grow5 own5 (by rw [List.length_append, HOL.out]; rfl)); clear own5 grow5)
          | fail)
        go_roundw
        case rel => exact ⟨k + 1, ln + 1, on + 2, ra4, rc4, ra5, rc5, by omega, by go_num, rfl, rfl, Lib.hid (by rw [HX.out, ups_next]; exact L5.out)⟩
        case measure => simp [intOf]; omega
    · obtain rfl : k = n := by omega
      have e : c.take k = c := by rw [← hm.out, List.take_length]
      rw [e] at HL
      have hok := ok_pick c
      generalize pickF c = l at HL hok
      have HOK := Lib.hid hok
      clear e hlt hk hok A1
      by_cases m0 : many < 0
      · have BF := Lib.hid (pstep B1.out HL.out.b)
        go_wp2_with fail
        go_ret
        exact ⟨rfl, BF.out⟩
      by_cases m1 : 100 < many
      · have BF := Lib.hid (pstep B1.out HL.out.b)
        go_wp2_with fail
        go_ret
        exact ⟨rfl, BF.out⟩
      obtain ⟨M, rfl⟩ : ∃ M : Nat, many = (M : Int) := ⟨many.toNat, by omega⟩
      have hM : M ≤ 100 := by omega
      have dm0 : decide ((M : Int) < 0) = false := decide_eq_false m0
      have dm1 : decide ((100 : Int) < (M : Int)) = false := decide_eq_false m1
      have HL0 : Hid (LpF w1 wr l (upsV l ++ List.replicate 0 ⟨4, 0⟩) (.slice la ln lc) (.slice oa (on + 0) oc) ln (on + 0)) := Lib.hid (by rw [List.replicate_zero, List.append_nil]; exact HL.out)
      go_upto_region 15 with fail
      go_loopw [6, 51] (fun u i wq => ∃ (q : Nat) (oa : Option Addr) (oc : Nat), q ≤ M ∧ i = .int .i64 q ∧ u = .slice oa (on + q) oc ∧ Hid (LpF w1 wq l (upsV l ++ List.replicate q ⟨4, 0⟩) (.slice la ln lc) (.slice oa (on + q) oc) ln (on + q))) (fun _ i _ => M - (intOf i).toNat)
      case atStart => exact ⟨0, oa, oc, Nat.zero_le _, rfl, rfl, HL0⟩
      case round =>
        clear HL HL0
        obtain ⟨q, oa', oc', hq, rfl, rfl, HQ⟩ := hrel
        by_cases hlq : q < M
        · have BA := below_alloc wr (.cells #[.int .i64 4, .int .i64 0] 35)
          have L3 := Lib.hid (HQ.out.step BA)
          have X3 := Lib.hid (wv_oneAt wr ⟨4, 0⟩ 1)
          have hs3 : w1.heap.size ≤ (wr.alloc (.cells #[.int .i64 4, .int .i64 0] 35)).heap.size := L3.out.b.size
          have HOL := Lib.hid HQ.out.ol
          have hm1 : Hid (([⟨4, 0⟩] : List WvT).length = 1) := Lib.hid rfl
          have hqi : (q : Int) < (M : Int) := by omega
          clear BA
          go_wp2_with (first
            | (at_builtin; refine wpList_append_n shV rfl _ _ 22 rfl w1.heap.size 35 i0 _ 16 Try.underlying22 hi hz0 hz1 hz2 rfl (.slice oa' (on + q) oc') (on + q) (upsV l ++ List.replicate q (⟨4, 0⟩ : WvT)) [(⟨4, 0⟩ : WvT)] HOL rfl L3.out.oo (some ⟨wr.heap.size, 0, none⟩) 1 1 rfl hm1 X3.out (by unfold maxLen; omega) (by omega) hs3 ?_; intro ra5 rc5 w5 own5 grow5 _; have L5 := Lib.hid (L3.out.growO (o' := upsV l ++ List.replicate q (⟨4, 0⟩ : WvT) ++ [(⟨4, 0⟩ : WvT)]) grow5 own5 (by rw [List.length_append, HOL.out]; rfl)); clear own5 grow5)
            | fail)
          go_roundw
          case rel => exact ⟨q + 1, ra5, rc5, by omega, by go_num, rfl, Lib.hid (by rw [rep_next, ← List.append_assoc]; exact L5.out)⟩
          case measure => simp [intOf]; omega
        · obtain rfl : q = M := by omega
          have hrun := first_V HOK.out.rng HOK.out.nod (n := q) (by omega)
          obtain ⟨ops, hops⟩ : ∃ ops, upsV l ++ List.replicate q (⟨4, 0⟩ : WvT) = ops := ⟨_, rfl⟩
          rw [hops] at HQ hrun
          obtain ⟨s, hs⟩ : ∃ s, (⟨halfV l q, [], q⟩ : StV) = s := ⟨_, rfl⟩
          rw [hs] at hrun
          have hsl : slpL s.line = l.drop q := by rw [← hs]; exact slp_half l [] q q
          obtain ⟨m, hmm⟩ : ∃ m : Nat, min q ln = m := ⟨_, rfl⟩
          have hmin : min (q : Int) (ln : Int) = (m : Int) := by omega
          have hml : m ≤ ln := by omega
          have hdr : l.drop q = l.drop m := by
            by_cases h : q ≤ ln
            · have : m = q := by omega
              rw [this]
            · have h1 : m = ln := by omega
              rw [h1, List.drop_eq_nil_of_le (by rw [HQ.out.ll]; omega), List.drop_eq_nil_of_le (by rw [HQ.out.ll]; exact Nat.le_refl _)]
          rw [hdr] at hsl
          have hsn : (slpL s.line).length = ln - m := by rw [hsl, List.length_drop, HQ.out.ll]
          have hgn : s.got.length = 0 := by rw [← hs]; rfl
          have hth : s.things = q := by rw [← hs]
          have HP := Lib.hid (fun (ra : Option Addr) (rc : Nat) X (HX : Hid (shV.At X ra rc ops)) => play_res (Lib.hid HQ.out.ol) (by omega) (Lib.hid rfl) (Lib.hid hrun) (Lib.hid hgn) (Lib.hid hsn) (Lib.hid hth) ra rc X HX)
          unfold PlayN at HP
          have HXA := Lib.hid (Shape.At.own (S := shV) HQ.out.oo HQ.out.ol)
          have HLA := Lib.hid (Shape.At.own (S := shI) HQ.out.lo HQ.out.ll)
          obtain ⟨ad1, cap1, hv1, hnc, hcm, hz, ha⟩ := own_shape HQ.out.lo
          simp only [Value.slice.injEq, true_and] at hv1
          obtain ⟨rfl, rfl⟩ := hv1
          have BF := Lib.hid (pstep B1.out HQ.out.b)
          have HSL := Lib.hid hsl
          have HDL : Hid ((l.drop m).length = ln - m) := Lib.hid (by rw [List.length_drop, HQ.out.ll])
          have hdb : ln - m ≤ 9223372036854775807 := by omega
          have HLL := Lib.hid HQ.out.ll
          have hk0 : (0 : Int) ≤ (m : Int) := by omega
          have hkt : (m : Int) ≤ (ln : Int) := by omega
          clear hrun hops hs hsl hmm hdr hsn hgn hth HOK HQ hlq hq
          by_cases hlcm : lc = m
          · subst hlcm
            obtain rfl : ln = lc := by omega
            have hse : ln - ln = 0 := Nat.sub_self _
            have hD0 : l.drop ln = [] := List.drop_eq_nil_of_le (by rw [HLL.out]; exact Nat.le_refl _)
            have HD0 := Lib.hid hD0
            rw [hse] at hdb HP
            have hE0 : ∀ X : World, Hid (shI.At X la 0 ([] : List Int)) := fun X => Lib.hid (by
              cases la with
              | none => exact Shape.At.nil X
              | some a => exact at_void X a 0)
            have L0 : Hid (([] : List Int).length = 0) := Lib.hid rfl
            clear hD0 hz ha
            cases la with
            | none =>
              go_wp2_with (first
                | (go_at_call 8; (with_reducible refine (HP.out _ _ _ HXA).mono ?_); rintro e w5 ⟨E5, ga5, gc5, la5, lc5, rfl, _, _, hD, hb⟩; rw [HSL.out, HD0.out] at hD; have B5 := Lib.hid (pstep BF.out hb); have F5 := Lib.hid hD; clear hb hD)
                | (go_at_call 11; (with_reducible refine (equalI _ L0 F5 (hE0 _) hdb).mono ?_); rintro e w6 ⟨rfl, hb⟩; have B6 := Lib.hid (pstep B5.out hb); clear hb)
                | fail)
              go_ret
              exact ⟨rfl, B6.out⟩
            | some a =>
              go_wp2_with (first
                | (go_at_call 8; (with_reducible refine (HP.out _ _ _ HXA).mono ?_); rintro e w5 ⟨E5, ga5, gc5, la5, lc5, rfl, _, _, hD, hb⟩; rw [HSL.out, HD0.out] at hD; have B5 := Lib.hid (pstep BF.out hb); have F5 := Lib.hid hD; clear hb hD)
                | (go_at_call 11; (with_reducible refine (equalI _ L0 F5 (hE0 _) hdb).mono ?_); rintro e w6 ⟨rfl, hb⟩; have B6 := Lib.hid (pstep B5.out hb); clear hb)
                | fail)
              go_ret
              exact ⟨rfl, B6.out⟩
          · obtain ⟨g, rfl⟩ : ∃ g, la = some ⟨g, 0, none⟩ := by
              cases la with
              | none => obtain ⟨h1, h2⟩ := hz rfl; omega
              | some a => obtain ⟨g, rfl, _⟩ := ha a rfl; exact ⟨g, rfl⟩
            have hne2 : ¬ m = lc := fun e => hlcm e.symm
            have hkc : (m : Int) ≤ (lc : Int) := by omega
            have hkc2 : m ≤ lc := by omega
            have RT := at_drop HLA.out m (lc - m) (by rw [HLL.out]; exact hml)
            rw [show 0 + m * shI.size = m by rw [Nat.zero_add]; exact Nat.mul_one m] at RT
            have HRT := Lib.hid RT
            clear RT hz ha
            go_wp2_with (first
              | (go_at_call 8; (with_reducible refine (HP.out _ _ _ HXA).mono ?_); rintro e w5 ⟨E5, ga5, gc5, la5, lc5, rfl, _, _, hD, hb⟩; rw [HSL.out] at hD; have B5 := Lib.hid (pstep BF.out hb); have F5 := Lib.hid hD; have G5 := Lib.hid (HRT.out.step hb); clear hb hD)
              | (go_at_call 11; (with_reducible refine (equalI _ HDL F5 G5 hdb).mono ?_); rintro e w6 ⟨rfl, hb⟩; have B6 := Lib.hid (pstep B5.out hb); clear hb)
              | fail)
            go_ret
            exact ⟨rfl, B6.out⟩
end
theorem waitFirst_walk (v v1 : Value) (w : World) (h : ArgIds w v) (h1 : ArgInt w v1) : Calls Try.prog 6 #[v, v1] w fun e w' => e = .returned (.bool true) ∧ Below w.heap.size w w' := by
  obtain ⟨a1, c1, l, rfl, hA, hn, _⟩ := h
  obtain ⟨t, rfl⟩ := h1
  exact fst_walk t w (Lib.hid hA) (Lib.hid rfl) hn
end Go.Proofs.Ytghonbiiichedaa
