/- Package lift: slices.Clone of numbers, slices.BinarySearch in a row of the call's own, split. -/
import Derived.Test.YteabdbgllafafaaLftB
import Derived.Test.YteabdbgllafafaaBinS
import Derived.Lib.SliceRun
namespace Go.Proofs.Yteabdbgllafafaa
open Go.RowKit

theorem srt_split (h : Int) (l : List Int) : srtL l = dnR h l ++ upR h l := by
  refine sorted_uniq ?_ (srt_sorted l) (List.pairwise_append.2 ⟨srt_sorted _, srt_sorted _, fun a ha b hb => ?_⟩)
  · exact (srt_perm l).trans ((updn_perm h l).symm.trans (List.perm_append_comm.trans ((srt_perm (dnL h l)).symm.append (srt_perm (upL h l)).symm)))
  · have h1 := (List.mem_filter.1 ((srt_perm (dnL h l)).mem_iff.1 ha)).2
    have h2 := (List.mem_filter.1 ((srt_perm (upL h l)).mem_iff.1 hb)).2
    simp at h1 h2
    omega
theorem dn_count (h : Int) (l : List Int) : (srtL l).countP (· < h) = (dnR h l).length := by
  rw [(srt_perm l).countP_eq, List.countP_eq_length_filter, show dnR h l = srtL (dnL h l) from rfl, (srt_perm (dnL h l)).length_eq]
  rfl
theorem updn_len (h : Int) (l : List Int) : (dnR h l).length + (upR h l).length = l.length := by
  rw [← List.length_append, ← srt_split, (srt_perm l).length_eq]
theorem below_al (w : World) (o : Obj) : Below w.heap.size w (w.alloc o) := below_alloc w o
set_option maxHeartbeats 1000000 in
set_option maxRecDepth 100000 in
theorem clone_I {ad : Option Addr} {cap n : Nat} {l : List Int} (w : World) (HA : Hid (shI.At w ad cap l)) (HN : Hid (l.length = n)) (hn : n ≤ 17592186044415) :
    Calls Try.prog 22 #[.slice ad n cap] w fun e w' => ∃ ra rc, e = .returned (.slice ra n rc) ∧ w'.ownsRow w.heap.size 3 1 (.slice ra n rc) n (shI.flat l) ∧ Below w.heap.size w w' := by
  obtain ⟨i0, hi, hz0, hz1, hz2⟩ := info_parts info_int
  have qn : ∀ (w : World) (a : Option Addr) (n c n' c' : Nat), (binOp .eql 22 (.slice a n c) (.slice none n' c')).run Try.prog w = .ok (.bool a.isNone) w := fun w a n c n' c' => Lib.run_eql_slice_nil w _ _ a n c n' c' Try.underlying22
  cases ad with
  | none =>
    obtain ⟨rfl, rfl⟩ := HA.out.1 rfl
    obtain rfl : n = 0 := by have := HN.out; simpa using this.symm
    clear HA
    go_enter Try.func22, Try.ntmps22
    go_wp2_with fail
    go_ret
    exact ⟨none, 0, rfl, World.ownsRow_nil _ _ _ _, Below.refl _ _⟩
  | some a =>
    have HO := Lib.hid (own_new w 3 w.heap.size (size := 1) (Nat.le_refl _))
    have HA2 := Lib.hid (HA.out.step (below_al w (.cells #[] 3)))
    go_enter Try.func22, Try.ntmps22
    go_wp2_with (first
      | (at_builtin; refine wpList_append_at shI rfl _ _ 22 rfl w.heap.size 3 i0 _ 8 Try.underlying22 hi hz0 hz1 hz2 rfl (.slice (some ⟨w.heap.size, 0, none⟩) 0 0) [] l rfl HO.out (some a) n cap rfl HN HA2.out ?h63 ?hby ?hba ?_)
      | fail)
    case h63 => simp; unfold maxLen; omega
    case hby => simp; omega
    case hba => simp
    intro ra rc w3 own3 grow3 _
    have B3 : Below w.heap.size w w3 := (below_al w _).grown grow3 (by simp) (fun k hk => by simp [Value.ownBlock] at hk; omega)
    have O3 := Lib.hid own3
    clear own3 grow3
    go_wp2_with fail
    go_ret
    exact ⟨ra, rc, by simp, O3.out, B3⟩
theorem bin_row {base n c : Nat} {ad : Option Addr} {l : List Int} (x : Int) (w : World) (HO : Hid (w.ownsRow base 3 1 (.slice ad n c) n (shI.flat l))) (hl : Hid (l.length = n)) (hs : Hid (l.Pairwise fun a b => a ≤ b)) (hn : n ≤ 400) (f : Nat) (hf : Hid (l.countP (· < x) = f)) :
    Calls Try.prog 47 #[.slice ad n c, .int .i64 x] w fun e w' => (∃ b, e = .returned (.tuple #[.int .i64 f, .bool b])) ∧ Below w.heap.size w w' := by
  have e := hl.out
  have ef := hf.out
  subst e ef
  by_cases h0 : l.length = 0
  · have hl0 : l = [] := List.eq_nil_of_length_eq_zero h0
    subst hl0
    refine (bin_nil ad c x w).mono ?_
    rintro e w' ⟨rfl, rfl⟩
    exact ⟨⟨false, rfl⟩, Below.refl _ _⟩
  · have HA := Shape.At.own (S := shI) HO.out rfl
    obtain ⟨g, off, rfl, _, _⟩ := HA.2 (by omega)
    have hc : ∀ j, j < l.length → w.cell? ⟨g, off + j, none⟩ = some (.int .i64 (l.getD j 0)) := fun j hj => by
      obtain ⟨b, o, e, _, h⟩ := at_int HA (List.getElem?_eq_getElem hj)
      cases e
      rw [h]
      simp [hj]
    refine (bin_any g off l.length c l x w (Nat.le_refl _) (by omega) hc (by rw [List.take_length]; exact hs.out)).mono ?_
    rintro e w' ⟨rfl, q, rfl⟩
    rw [List.take_length]
    exact ⟨⟨_, rfl⟩, below_drewN (Below.refl _ _) q⟩
/-- What split gives: below in a row of the call's own, above right behind it. -/
def SplitOut (w : World) (f m : Nat) (ds us : List Int) (e : Ending) (w' : World) : Prop :=
  ∃ ba bc aa ac, e = .returned (.tuple #[.slice ba f bc, .slice aa m ac]) ∧ Below w.heap.size w w' ∧ Que shI w' w.heap.size 3 (.slice ba f bc) f ds ∧ shI.At w' aa ac us ∧ us.length = m ∧ (0 < m → ∀ g o, ba = some ⟨g, o, none⟩ → aa = some ⟨g, o + f, none⟩)
theorem que_take {w : World} {base n c : Nat} {ad : Option Addr} {l : List Int} (h : Que shI w base 3 (.slice ad n c) n l) {k : Nat} (hk : k ≤ n) : Que shI w base 3 (.slice ad k c) k (l.take k) := by
  obtain ⟨h1, h2⟩ := h
  refine ⟨by rw [List.length_take]; omega, ?_⟩
  rcases h2 with ⟨h2, h3⟩ | ⟨g, off, cap, cur, hv, hg, hh, hn, hc, hs, ht⟩
  · simp only [Value.slice.injEq] at h2
    obtain ⟨rfl, _, rfl⟩ := h2
    exact Or.inl ⟨by rw [show k = 0 by omega], by omega⟩
  · simp only [Value.slice.injEq, true_and] at hv
    obtain ⟨rfl, rfl⟩ := hv
    refine Or.inr ⟨g, off, c, cur, rfl, hg, hh, by omega, hc, hs, fun i hi => ?_⟩
    have hs1 : shI.size = 1 := rfl
    rw [hs1, Nat.mul_one] at hi
    rw [ht i (by rw [hs1]; omega), flat_int, flat_int, List.getElem?_map, List.getElem?_map, List.getElem?_take_of_lt hi]
set_option maxHeartbeats 2000000 in
set_option maxRecDepth 100000 in
theorem split_W {ad : Option Addr} {cap n : Nat} {l : List Int} (head : Int) (w : World) (HA : Hid (shI.At w ad cap l)) (hn : Hid (l.length = n)) (hnb : n ≤ 400) (f m : Nat) (hf : Hid ((dnR head l).length = f)) (hm : Hid ((upR head l).length = m)) :
    Calls Try.prog 34 #[.int .i64 head, .slice ad n cap] w (SplitOut w f m (dnR head l) (upR head l)) := by
  have hfm : f + m = n := by rw [← hf.out, ← hm.out, ← hn.out]; exact updn_len head l
  have HC : Hid ((sortI l).countP (· < head) = f) := Lib.hid ((dn_count head l).trans hf.out)
  have HSL : Hid ((sortI l).length = n) := Lib.hid (by rw [sortI_len]; exact hn.out)
  have HSS : Hid ((sortI l).Pairwise fun a b => a ≤ b) := Lib.hid (srt_sorted l)
  have HT : Hid ((sortI l).take f = dnR head l) := Lib.hid (by rw [show sortI l = dnR head l ++ upR head l from srt_split head l, ← hf.out, List.take_left' rfl])
  have HD : Hid ((sortI l).drop f = upR head l) := Lib.hid (by rw [show sortI l = dnR head l ++ upR head l from srt_split head l, ← hf.out, List.drop_left' rfl])
  have hn17 : n ≤ 17592186044415 := by omega
  have hn46 : n < 4611686018427387904 := by omega
  go_enter Try.func34, Try.ntmps34
  go_upto_region 4 with (first
    | (go_at_call 22; (with_reducible refine (clone_I _ HA hn hn17).mono ?_); rintro e w1 ⟨ra, rc, rfl, o1, b1⟩; have O1 := Lib.hid o1; have B1 := Lib.hid b1; clear o1 b1)
    | (go_at_call 37; (with_reducible refine (sortI_row _ O1 hn hn46).mono ?_); rintro e w2 ⟨rfl, o2, g2⟩; have O2 := Lib.hid o2; have B2 := Lib.hid (B1.out.grown g2 B1.out.size (fun k hk => (own_lt O1.out hk).1)); clear o2 g2)
    | (go_at_call 47; (with_reducible refine (bin_row head _ O2 HSL HSS hnb f HC).mono ?_); rintro e w3 ⟨⟨bb, rfl⟩, b3⟩; have O3 := Lib.hid (own_step O2.out b3); have B3 := Lib.hid (pstep B2.out b3); clear b3)
    | fail)
  obtain ⟨a1, c1, hv, hnc, hcm, hnil, hsm⟩ := own_shape O3.out
  simp only [Value.slice.injEq, true_and] at hv
  obtain ⟨rfl, rfl⟩ := hv
  have Q3 := Lib.hid (que_own (S := shI) O3.out HSL.out)
  have QT := Lib.hid (que_take Q3.out (k := f) (by omega))
  rw [HT.out] at QT
  have hfn : f ≤ n := by omega
  have hfc : f ≤ rc := by omega
  have hmi : ((n : Int) - (f : Int)) = (m : Int) := by omega
  have hnf : n - f = m := by omega
  cases ra with
  | none =>
    obtain ⟨rfl, rfl⟩ := hnil rfl
    obtain rfl : f = 0 := by omega
    obtain rfl : m = 0 := by omega
    have HU0 : Hid (upR head l = []) := Lib.hid (List.eq_nil_of_length_eq_zero hm.out)
    go_quiet (fail)
    go_wp2_with fail
    go_ret2
    refine ⟨_, _, _, _, rfl, below_drewN B3.out _, que_step QT.out (below_drewN (Below.refl _ _) _), ?_, hm.out, fun h => absurd h (Nat.lt_irrefl _)⟩
    rw [HU0.out]
    exact Shape.At.nil _
  | some a =>
    obtain ⟨g, rfl, hg1, hg2⟩ := hsm a rfl
    by_cases hce : f = rc
    · subst hce
      obtain rfl : n = f := by omega
      obtain rfl : m = 0 := by omega
      have HU0 : Hid (upR head l = []) := Lib.hid (List.eq_nil_of_length_eq_zero hm.out)
      go_quiet (fail)
      go_wp2_with fail
      go_ret2
      refine ⟨_, _, _, _, rfl, below_drewN B3.out _, que_step QT.out (below_drewN (Below.refl _ _) _), ?_, hm.out, fun h => absurd h (Nat.lt_irrefl _)⟩
      rw [HU0.out]
      exact at_void _ _ _
    · have hce1 : decide (f = rc) = false := decide_eq_false hce
      have hce2 : ¬ f = rc := hce
      have QD : Hid (shI.At w3 (some ⟨g, f, none⟩) (rc - f) (upR head l)) := Lib.hid (by
        have h := que_at (que_drop Q3.out f hfn)
        rw [HD.out, show shI.size = 1 from rfl, Nat.mul_one, Nat.zero_add] at h
        exact h)
      go_quiet (fail)
      go_wp2_with fail
      go_ret2
      refine ⟨_, _, _, _, rfl, below_drewN B3.out _, que_step QT.out (below_drewN (Below.refl _ _) _), QD.out.step (below_drewN (Below.refl _ _) _), hm.out, ?_⟩
      intro _ g' o' e
      cases e
      simp
end Go.Proofs.Yteabdbgllafafaa
