/- corebellref.GPlay. -/
import Derived.Test.YteeejkcehajokaaNesJ
import Derived.Test.YteeejkcehajokaaNesE
namespace Go.Proofs.Yteeejkcehajokaa
open Go.RowKit

/-- What is in memory while GPlay runs. -/
structure LpG (w wx : World) (B : Nat) (k : Nat) (es : List Int) (u : Value) (on : Bool) (v : Value) (m : Nat) (l : List FrT) : Prop where
  b : Below w.heap.size w wx
  lt : w.heap.size < B
  z : wx.heap[w.heap.size]? = some (.cells #[.bool false, .slice none 0 0] 24 (0, 0))
  r : wx.heap[B]? = some (.cells #[.bool on, v] 24 (0, 0))
  o : wx.ownsRow w.heap.size 26 1 u k (shI.flat es)
  f : wx.ownsRow w.heap.size 43 2 v m (shF.flat l)
theorem own_apart {w : World} {b1 e1 s1 n1 b2 e2 s2 n2 : Nat} {v1 v2 : Value} {x1 x2 : List Value} (h1 : w.ownsRow b1 e1 s1 v1 n1 x1) (h2 : w.ownsRow b2 e2 s2 v2 n2 x2) (he : ¬ e1 = e2) : ∀ g, v2.ownBlock = some g → ¬ v1.ownBlock = some g := fun g hg hg1 => by
  obtain ⟨_, h2⟩ := h2
  rcases h2 with ⟨rfl, _⟩ | ⟨g', cap, cur, hv, _, hh, r⟩
  · cases hg
  · rw [hv] at hg
    simp only [Value.ownBlock, Option.some.injEq] at hg
    subst hg
    exact own_ne h1 hh (fun e => he e.symm) g' hg1 rfl
section
variable {w wx wy : World} {B k : Nat} {es : List Int} {u : Value} {on : Bool} {v : Value} {m : Nat} {l : List FrT}
theorem LpG.step (h : LpG w wx B k es u on v m l) (hb : Below wx.heap.size wx wy) : LpG w wy B k es u on v m l :=
  ⟨pstep h.b hb, h.lt, heap_step h.z hb, heap_step h.r hb, own_step h.o hb, own_step h.f hb⟩
theorem LpG.put (h : LpG w wx B k es u on v m l) (on' : Bool) {v' : Value} {m' : Nat} {l' : List FrT} (hf : wx.ownsRow w.heap.size 43 2 v' m' (shF.flat l')) :
    LpG w ((wx.setCell ⟨B, 0, none⟩ (.bool on')).setCell ⟨B, 1, none⟩ v') B k es u on' v' m' l' := by
  have n0 := own_ne h.o h.r (by decide)
  have n1 := own_ne hf h.r (by decide)
  exact ⟨set2_below _ _ h.b (by have := h.lt; omega), h.lt, (Below.heap_setCell _ _ _ _ (by have := h.lt; simp; omega)).trans ((Below.heap_setCell _ _ _ _ (by have := h.lt; simp; omega)).trans h.z), res_stored h.r, own_set (own_set h.o n0 _) n0 _, own_set (own_set hf n1 _) n1 _⟩
theorem LpG.grown {k' : Nat} {es' : List Int} {u' : Value} (h : LpG w wx B k es u on v m l) (hg : wx.grownBy wy u.ownBlock) (ho : wy.ownsRow w.heap.size 26 1 u' k' (shI.flat es')) : LpG w wy B k' es' u' on v m l :=
  ⟨h.b.grown hg h.b.size (fun j hj => (own_lt h.o hj).1), h.lt,
    (hg.block _ (heap_lt h.z) (fun e => own_ne h.o h.z (by decide) _ e.symm rfl)).trans h.z,
    (hg.block _ (heap_lt h.r) (fun e => own_ne h.o h.r (by decide) _ e.symm rfl)).trans h.r, ho,
    own_heap h.f fun g o hgo hh => (hg.block g (heap_lt hh) (fun e => own_apart h.o h.f (by decide) g hgo e.symm)).trans hh⟩
end
theorem lit1 (w : World) (a : Int) (T cap : Nat) : shI.At (w.alloc (.cells #[.int .i64 a] T)) (some ⟨w.heap.size, 0, none⟩) cap [a] :=
  Shape.At.lit [a] (heap_alloc_new w _)
set_option maxHeartbeats 2000000 in
set_option maxRecDepth 100000 in
theorem gplay_N {ad : Option Addr} {cap n : Nat} {ks : List Int} (w : World) (HA : Hid (shI.At w ad cap ks)) (hm : Hid (ks.length = n)) (hn : n ≤ 17592186044416) (es : List Int) (on : Bool) (l : List FrT) (m : Nat) (hr : Hid (runN ks = (es, ⟨on, l⟩))) (hl : Hid (l.length = m)) :
    Calls Try.prog 10 #[.slice ad n cap] w fun e w' => ∃ ea ec ra rc, e = .returned (.tuple #[.slice ea n ec, .agg #[.bool on, .slice ra m rc]]) ∧ shI.At w' ea ec es ∧ shF.At w' ra rc l ∧ Below w.heap.size w w' := by
  obtain ⟨i0, hi, hz0, hz1, hz2⟩ := info_parts' info_errno
  have H0 : LpG w ((w.alloc (.cells #[.bool false, .slice none 0 0] 24)).alloc (.cells #[.bool true, .slice none 0 0] 24)) (w.heap.size + 1) 0 [] (.slice none 0 0) true (.slice none 0 0) 0 [] :=
    ⟨below_two w _ _, Nat.lt_succ_self _, heap_step (heap_alloc_new w _) (below_alloc _ _), heap_alloc2_new w _ _, World.ownsRow_nil _ _ _ _, World.ownsRow_nil _ _ _ _⟩
  have H2 := Lib.hid H0
  clear H0
  go_enter Try.func10, Try.ntmps10
  go_wp2_with fail
  generalize w.heap.size + 1 = B at H2 ⊢
  go_loopw [5, 13] (fun u i wr => ∃ (k : Nat) (ea : Option Addr) (ec : Nat) (ra : Option Addr) (rc j : Nat), k ≤ n ∧ i = .int .i64 k ∧ u = .slice ea k ec ∧ Hid ((runN (ks.take k)).2.kept.length = j) ∧ Hid (LpG w wr B k (runN (ks.take k)).1 (.slice ea k ec) (runN (ks.take k)).2.on (.slice ra j rc) j (runN (ks.take k)).2.kept)) (fun _ i _ => n - (intOf i).toNat)
  case atStart => exact ⟨0, none, 0, none, 0, 0, Nat.zero_le _, rfl, rfl, Lib.hid rfl, H2⟩
  case round =>
    clear H2
    obtain ⟨k, ea, ec, ra, rc, j, hk, rfl, rfl, HM, HL⟩ := hrel
    have hev := ev_run (ks.take k)
    have hlen := runN_len (ks.take k)
    rw [List.length_take, hm.out, Nat.min_eq_left hk] at hlen
    obtain ⟨st, hst⟩ : ∃ st, runN (ks.take k) = st := ⟨_, rfl⟩
    have HN : ∀ o, ks[k]? = some o → runN (ks.take (k + 1)) = stepRN st o := fun o ho => by rw [runN_take ho, hst]
    rw [hst] at HM HL hev hlen
    have HNX := Lib.hid HN
    clear HN
    obtain ⟨es1, ⟨on1, l1⟩⟩ := st
    simp only at HM HL hev hlen
    have h400 : j ≤ 400 := by have := hev.rt.len; simp only [HM.out] at this; exact this
    by_cases hkl : k < n
    · obtain ⟨K, ho⟩ : ∃ o, ks[k]? = some o := ⟨ks[k]'(by rw [hm.out]; exact hkl), List.getElem?_eq_getElem _⟩
      have hnx := HNX.out _ ho
      obtain ⟨b, off, rfl, hb, e0⟩ := at_int HA.out ho
      have g0 := (HL.out.b.cell (p := ⟨b, off + k, none⟩) hb).trans e0
      have hbr : b < wr.heap.size := Nat.lt_of_lt_of_le hb HL.out.b.size
      have HAF := Lib.hid (Shape.At.own (S := shF) HL.out.f HM.out)
      have hrc : j ≤ rc := by
        obtain ⟨_, _, hv, h1, _⟩ := own_shape HL.out.f
        simp only [Value.slice.injEq, true_and] at hv
        obtain ⟨rfl, rfl⟩ := hv
        exact h1
      have hltB := HL.out.lt
      have G0 := pair_at HL.out.r
      have HLEN := Lib.hid hlen
      have hS := stepNN_rt hev.rt K
      clear e0 ho HNX hlen hst hev
      obtain ⟨x, hx⟩ : ∃ x, errN true ⟨on1, l1⟩ K = x := ⟨_, rfl⟩
      unfold stepRN at hnx
      simp only [hx] at hnx
      rw [hx] at hS
      by_cases hx0 : x = 0
      · subst hx0
        rw [if_pos rfl] at hnx hS
        obtain ⟨⟨on2, l2⟩, hc⟩ : ∃ c, newN ⟨on1, l1⟩ K = c := ⟨_, rfl⟩
        rw [hc] at hnx hS
        have HS := Lib.hid hS
        have HNX := Lib.hid hnx
        clear hx hc hnx hS
        obtain ⟨j2, hj2⟩ : ∃ j2, l2.length = j2 := ⟨_, rfl⟩
        have HJ := Lib.hid hj2
        clear hj2
        go_wp2_with (first
          | (go_at_call 8; (with_reducible refine (gstep_N on1 K _ HAF HM (by omega) hrc on2 l2 j2 0 HS HJ).mono ?_); rintro e w3 ⟨ra3, rc3, rfl, o3, hb3⟩; have L3 := Lib.hid (HL.out.step hb3); have O3 := own_base o3 HL.out.b.size; have G3 := pair_at L3.out.r; have F3 := fun i => frozen_of_row w3 B i _ _ L3.out.r; have hB3 := heap_lt L3.out.r; have L4 := Lib.hid ((L3.out.put on2 O3).step (below_two _ (.cells #[.bool on2, .slice ra3 j2 rc3] 24) (.cells #[.int .i64 0] 26))); have X4 : Hid (shI.At (((((w3.setCell ⟨B, 0, none⟩ (.bool on2)).setCell ⟨B, 1, none⟩ (.slice ra3 j2 rc3))).alloc (.cells #[.bool on2, .slice ra3 j2 rc3] 24)).alloc (.cells #[.int .i64 0] 26)) (some ⟨w3.heap.size + 1, 0, none⟩) 1 [0]) := (by have := lit1 (((w3.setCell ⟨B, 0, none⟩ (.bool on2)).setCell ⟨B, 1, none⟩ (.slice ra3 j2 rc3)).alloc (.cells #[.bool on2, .slice ra3 j2 rc3] 24)) 0 26 1; simp only [World.size_alloc, World.size_setCell] at this; exact Lib.hid this); clear hb3 o3 O3)
          | (at_builtin; refine wpList_append_n shI rfl _ _ 29 rfl w.heap.size 26 i0 _ 8 Try.underlying29 hi hz0 hz1 hz2 rfl (.slice ea k ec) k es1 [0] HLEN rfl L4.out.o (some ⟨w3.heap.size + 1, 0, none⟩) 1 1 rfl (Lib.hid rfl) X4.out (by unfold maxLen; omega) (by omega) (by have := L3.out.b.size; simp; omega) ?_)
          | fail)
        intro ea5 ec5 w5 own5 grow5 _
        have L5 := Lib.hid (L4.out.grown grow5 own5)
        clear own5 grow5
        go_wp2_with fail
        go_roundw
        case rel => exact ⟨k + 1, ea5, ec5, ra3, rc3, j2, by omega, by go_num, rfl, by rw [HNX.out]; exact HJ, by rw [HNX.out]; exact L5⟩
        case measure => simp [intOf]; omega
      · rw [if_neg hx0] at hnx hS
        have HNX := Lib.hid hnx
        have HS := Lib.hid hS
        have hx1 : (x == 0) = false := by simpa using hx0
        clear hx hnx hS
        go_wp2_with (first
          | (go_at_call 8; (with_reducible refine (gstep_N on1 K _ HAF HM (by omega) hrc false [] 0 x HS (Lib.hid rfl)).mono ?_); rintro e w3 ⟨ra3, rc3, rfl, o3, hb3⟩; have L3 := Lib.hid (HL.out.step hb3); have O3 := own_base o3 HL.out.b.size; have G3 := pair_at L3.out.r; have F3 := fun i => frozen_of_row w3 B i _ _ L3.out.r; have hB3 := heap_lt L3.out.r; have L4 := Lib.hid (L3.out.step (below_two _ (.cells #[.bool false, .slice ra3 0 rc3] 24) (.cells #[.int .i64 x] 26))); have X4 : Hid (shI.At ((w3.alloc (.cells #[.bool false, .slice ra3 0 rc3] 24)).alloc (.cells #[.int .i64 x] 26)) (some ⟨w3.heap.size + 1, 0, none⟩) 1 [x]) := (by have := lit1 (w3.alloc (.cells #[.bool false, .slice ra3 0 rc3] 24)) x 26 1; simp only [World.size_alloc] at this; exact Lib.hid this); clear hb3 o3 O3)
          | (at_builtin; refine wpList_append_n shI rfl _ _ 29 rfl w.heap.size 26 i0 _ 8 Try.underlying29 hi hz0 hz1 hz2 rfl (.slice ea k ec) k es1 [x] HLEN rfl L4.out.o (some ⟨w3.heap.size + 1, 0, none⟩) 1 1 rfl (Lib.hid rfl) X4.out (by unfold maxLen; omega) (by omega) (by have := L3.out.b.size; simp; omega) ?_)
          | fail)
        intro ea5 ec5 w5 own5 grow5 _
        have L5 := Lib.hid (L4.out.grown grow5 own5)
        clear own5 grow5
        go_wp2_with fail
        go_roundw
        case rel => exact ⟨k + 1, ea5, ec5, ra, rc, j, by omega, by go_num, rfl, by rw [HNX.out]; exact HM, by rw [HNX.out]; exact L5⟩
        case measure => simp [intOf]; omega
    · obtain rfl : k = n := by omega
      have hre : (es1, (⟨on1, l1⟩ : CoreT)) = (es, ⟨on, l⟩) := by rw [← hst, ← hr.out, ← hm.out, List.take_length]
      simp only [Prod.mk.injEq, CoreT.mk.injEq] at hre
      obtain ⟨rfl, rfl, rfl⟩ := hre
      obtain rfl : j = m := by rw [← HM.out, hl.out]
      have G0 := pair_at HL.out.r
      have G1 := pair_at HL.out.z
      have F1 := fun i => frozen_of_row wr w.heap.size i _ _ HL.out.z
      have hEB := HL.out.lt
      have hne1 : ¬ w.heap.size = B := by omega
      have hne2 : ¬ B = w.heap.size := by omega
      have HLEN := Lib.hid hlen
      clear HNX hst hev hlen
      go_wp2_with fail
      go_region
      go_wp2_with fail
      refine bodyPost_ret (results_tmp1_row rfl _ _ w.heap.size 24 #[.bool on1, .slice ra j rc] (0, 0) _ rfl (res_stored HL.out.z) Try.underlying24 rfl size_core) rfl ?_
      have n0 := own_ne HL.out.f HL.out.z (by decide)
      have n1 := own_ne HL.out.o HL.out.z (by decide)
      exact ⟨_, _, _, _, rfl, Shape.At.own (S := shI) (own_set (own_set (w := wr.drew) HL.out.o n1 _) n1 _) HLEN.out, Shape.At.own (S := shF) (own_set (own_set (w := wr.drew) HL.out.f n0 _) n0 _) HM.out, set2_below (wx := wr.drew) _ _ HL.out.b.drew (Nat.le_refl _)⟩
end Go.Proofs.Yteeejkcehajokaa
