/- Package wait: plain facts on the line; the walks of wake, wakeFirst, asleep. -/
import Derived.Test.YtghonbiiichedaaWtD
import Derived.Test.YtghonbiiichedaaMem
namespace Go.Proofs.Ytghonbiiichedaa
open Go.RowKit Go.Maps

abbrev NodW (l : List WtT) : Prop := l.Pairwise fun a b => ¬ a.1 = b.1
theorem nod_at {l : List WtT} (h : NodW l) {j k : Nat} {a b : WtT} (ha : l[j]? = some a) (hb : l[k]? = some b) (e : a.1 = b.1) : j = k := by
  unfold NodW at h
  rw [List.pairwise_iff_getElem] at h
  have hj := (List.getElem?_eq_some_iff.1 ha)
  have hk := (List.getElem?_eq_some_iff.1 hb)
  rcases Nat.lt_trichotomy j k with h1 | h1 | h1
  · exact absurd (by rw [hj.2, hk.2]; exact e) (h j k hj.1 hk.1 h1)
  · exact h1
  · exact absurd (by rw [hj.2, hk.2]; exact e.symm) (h k j hk.1 hj.1 h1)
/-- Distinct numbers below n are at most n. -/
theorem drop_len {l : List Int} (h : l.Pairwise fun a b => ¬ a = b) (a : Int) : l.length ≤ (l.filter fun x => decide (¬ x = a)).length + 1 := by
  induction l with
  | nil => simp
  | cons b r ih =>
    rw [List.pairwise_cons] at h
    by_cases e : b = a
    · subst e
      rw [List.filter_cons_of_neg (by simp), List.filter_eq_self.2 fun x hx => by simpa using fun q : x = b => h.1 x hx q.symm, List.length_cons]
      exact Nat.le_refl _
    · rw [List.filter_cons_of_pos (by simpa using e), List.length_cons, List.length_cons]
      exact Nat.succ_le_succ (ih h.2)
theorem names_len : ∀ (n : Nat) {l : List Int}, (∀ x ∈ l, 0 ≤ x ∧ x < (n : Int)) → (l.Pairwise fun a b => ¬ a = b) → l.length ≤ n
  | 0, l, h, _ => by
    cases l with
    | nil => exact Nat.le_refl _
    | cons a r => have := h a List.mem_cons_self; omega
  | n + 1, l, h, hp => by
    have h1 := drop_len hp (n : Int)
    have h2 := names_len n (l := l.filter fun x => decide (¬ x = (n : Int))) (fun x hx => by
      obtain ⟨h3, h4⟩ := List.mem_filter.1 hx
      rw [decide_eq_true_eq] at h4
      have := h x h3
      omega) (hp.filter _)
    omega
theorem line_len {s : StV} (hg : GoodV s) : s.line.length ≤ 64 := by
  have h := names_len 64 (l := s.line.map (·.1)) (fun x hx => by
    obtain ⟨q, hq, rfl⟩ := List.mem_map.1 hx
    have := (hg.rng q hq).1
    omega) (List.pairwise_map.2 hg.nod)
  simpa using h
/-- Whom the waking reaches. -/
theorem wake_put : ∀ {l : List WtT} {k : Nat} {q : WtT}, NodW l → l[k]? = some q → (∀ j y, j < k → l[j]? = some y → y.2 = 2) → ¬ q.2 = 2 → wakeV l = putV l q.1 2
  | [], k, q, _, hk, _, _ => by cases hk
  | a :: r, 0, q, hn, hk, _, hq => by
    cases hk
    unfold NodW at hn
    rw [List.pairwise_cons] at hn
    rw [wakeV, if_neg hq]
    unfold putV
    rw [List.map_cons, if_pos rfl]
    congr 1
    conv => lhs; rw [← List.map_id r]
    refine (List.map_congr_left fun x hx => ?_).symm
    rw [if_neg (fun e => hn.1 x hx e.symm)]
    rfl
  | a :: r, k + 1, q, hn, hk, ha, hq => by
    unfold NodW at hn
    rw [List.pairwise_cons] at hn
    rw [List.getElem?_cons_succ] at hk
    rw [wakeV, if_pos (ha 0 a (by omega) rfl)]
    unfold putV
    rw [List.map_cons, if_neg (fun e => hn.1 q (List.mem_of_getElem? hk) e), wake_put hn.2 hk (fun j y hj hy => ha (j + 1) y (by omega) (by rw [List.getElem?_cons_succ]; exact hy)) hq]
    rfl
theorem wake_none : ∀ {l : List WtT}, (∀ (j : Nat) (y : WtT), l[j]? = some y → y.2 = 2) → wakeV l = l
  | [], _ => rfl
  | a :: r, h => by
    rw [wakeV, if_pos (h 0 a rfl), wake_none fun j y hy => h (j + 1) y (by rw [List.getElem?_cons_succ]; exact hy)]
/-- Those asleep, in their order. -/
def slpL (l : List WtT) : List Int := (l.filter fun q => decide (q.2 = 1)).map (·.1)
theorem slp_next {l : List WtT} {k : Nat} {q : WtT} (h : l[k]? = some q) : slpL (l.take (k + 1)) = slpL (l.take k) ++ if q.2 = 1 then [q.1] else [] := by
  have e : l.take (k + 1) = l.take k ++ [q] := by rw [List.take_add_one, h]; rfl
  unfold slpL
  rw [e, List.filter_append, List.map_append]
  congr 1
  by_cases hq : q.2 = 1
  · rw [if_pos hq, List.filter_cons_of_pos (by simpa using hq)]; rfl
  · rw [if_neg hq, List.filter_cons_of_neg (by simpa using hq)]; rfl
theorem slp_le (l : List WtT) : (slpL l).length ≤ l.length := by
  unfold slpL
  rw [List.length_map]
  exact List.length_filter_le _ _
theorem mem_put {l : List WtT} {t : Int} {y : Nat} {q : WtT} (h : q ∈ putV l t y) : (q = (t, y) ∧ ∃ x, (t, x) ∈ l) ∨ (q ∈ l ∧ ¬ q.1 = t) := by
  obtain ⟨a, ha, rfl⟩ := List.mem_map.1 h
  by_cases e : a.1 = t
  · rw [if_pos e, e]
    exact Or.inl ⟨rfl, a.2, by rw [← e]; exact ha⟩
  · rw [if_neg e]
    exact Or.inr ⟨ha, e⟩
/-- The first k are woken. -/
def allK (l : List WtT) (k : Nat) : List WtT := (l.take k).map (fun q => (q.1, 2)) ++ l.drop k
theorem allK_0 (l : List WtT) : allK l 0 = l := by simp [allK]
theorem allK_end {l : List WtT} {k : Nat} (h : l.length ≤ k) : allK l k = l.map fun q => (q.1, 2) := by
  unfold allK
  rw [List.take_of_length_le h, List.drop_eq_nil_of_le h, List.append_nil]
theorem allK_names (l : List WtT) (k : Nat) : (allK l k).map (·.1) = l.map (·.1) := by
  unfold allK
  rw [List.map_append, List.map_map]
  show (l.take k).map (·.1) ++ (l.drop k).map (·.1) = _
  rw [← List.map_append, List.take_append_drop]
theorem allK_next {l : List WtT} (hn : NodW l) {k : Nat} {q : WtT} (h : l[k]? = some q) : putV (allK l k) q.1 2 = allK l (k + 1) := by
  have hk := (List.getElem?_eq_some_iff.1 h).1
  have hd : l.drop k = q :: l.drop (k + 1) := by
    rw [List.drop_eq_getElem_cons hk, (List.getElem?_eq_some_iff.1 h).2]
  have ht : l.take (k + 1) = l.take k ++ [q] := by rw [List.take_add_one, h]; rfl
  have e : l = l.take k ++ q :: l.drop (k + 1) := by rw [← hd, List.take_append_drop]
  have hn2 := hn
  rw [e] at hn2
  unfold NodW at hn2
  rw [List.pairwise_append, List.pairwise_cons] at hn2
  unfold allK putV
  rw [ht, hd, List.map_append, List.map_append, List.map_cons, if_pos rfl, List.append_assoc]
  congr 1
  · rw [List.map_map]
    refine List.map_congr_left fun x hx => ?_
    show (if x.1 = q.1 then (x.1, 2) else (x.1, 2)) = _
    split <;> rfl
  · show (q.1, 2) :: (l.drop (k + 1)).map _ = (q.1, 2) :: l.drop (k + 1)
    congr 1
    conv => rhs; rw [← List.map_id (l.drop (k + 1))]
    refine List.map_congr_left fun x hx => ?_
    rw [if_neg (fun e => hn2.2.1.1 x hx e.symm)]
    rfl
theorem allK_at {l : List WtT} {k : Nat} {q : WtT} (h : l[k]? = some q) : q ∈ allK l k := by
  have hk := (List.getElem?_eq_some_iff.1 h).1
  have hd : l.drop k = q :: l.drop (k + 1) := by
    rw [List.drop_eq_getElem_cons hk, (List.getElem?_eq_some_iff.1 h).2]
  unfold allK
  rw [hd]
  simp
theorem keep_thr {w w' : World} {x : Nat} {cs : Array Value} {fr : Nat × Nat} (h : w.heap[x]? = some (.cells cs 52 fr)) (hg : w.grownBy w' (some x)) : KeepV w w' :=
  ⟨hg.size, fun b cs' t fr' hb _ h2 _ _ => (hg.block b (heap_lt hb) (fun e => by
    cases e
    rw [h] at hb
    simp only [Option.some.injEq, Obj.cells.injEq] at hb
    exact h2 hb.2.1.symm)).trans hb⟩
section
variable {w0 w w' : World} {B m L : Nat} {P : Int → Nat} {f : Int → Option Nat} {cnt : Nat} {ps : List Nat} {l : List WtT} {gt : List Int} {th : Nat} {ov gv : Value}
/-- One thread is something else now. -/
theorem MemV.setY (h : MemV w0 w B m L P f cnt ps l gt th ov gv) {t : Int} {x y : Nat} (hm : (t, x) ∈ l) (hg : w.grownBy w' (some (P t))) (hn : w'.heap[P t]? = some (.cells #[.int .i64 t, .bool (y == 2), .bool (y == 1)] 52 (0, 0))) : MemV w0 w' B m L P f cnt ps (putV l t y) gt th ov gv := by
  have hx := (h.thr _ hm).1
  have h0 := (h.thr _ hm).2
  unfold ThrW at hx
  simp only at hx h0
  have hk : ∀ (b : Nat) (cs : Array Value) (u : TypeId) (fr : Nat × Nat), w.heap[b]? = some (.cells cs u fr) → ¬ u = 52 → w'.heap[b]? = some (.cells cs u fr) := fun b _ _ _ hb hu => (hg.block b (heap_lt hb) (fun e => cells_ne hb hx hu (Option.some.inj e))).trans hb
  refine ⟨h.b.grown hg h.b.size (fun _ e => by cases e; exact h0), h.hB, hk _ _ _ _ h.hp (by decide), h.hm, h.mp.same (hg.block m h.mp.lt (fun e => mapP_ne h.mp hx (Option.some.inj e).symm)),
    own_heap h.ord (fun g o hgo ho => (hg.block g (heap_lt ho) (fun e => own_ne h.ord hx (by decide) g hgo (Option.some.inj e))).trans ho),
    own_heap h.got (fun g o hgo ho => (hg.block g (heap_lt ho) (fun e => own_ne h.got hx (by decide) g hgo (Option.some.inj e))).trans ho), fun q hq => ?_⟩
  rcases mem_put hq with ⟨rfl, _⟩ | ⟨hq, hne⟩
  · exact ⟨hn, h0⟩
  · refine ⟨?_, (h.thr q hq).2⟩
    have ht := (h.thr q hq).1
    unfold ThrW at ht ⊢
    exact (hg.block _ (heap_lt ht) (fun e => hne (h.inj hq hm (Option.some.inj e)))).trans ht
end
theorem set_one (w : World) (x i : Nat) (u : Value) : w.grownBy (w.setCell ⟨x, i, none⟩ u) (some x) := ⟨rfl, rfl, rfl, by simp, fun k _ hne => Below.heap_setCell w ⟨x, i, none⟩ u k (fun e => hne (by simp only at e; rw [e]))⟩
theorem set_two (w : World) (x i j : Nat) (u v : Value) : w.grownBy ((w.setCell ⟨x, i, none⟩ u).setCell ⟨x, j, none⟩ v) (some x) := (set_one w x i u).trans (set_one _ x j v)
set_option maxHeartbeats 1000000 in
set_option maxRecDepth 100000 in
theorem wake_W {p : Nat} {a b c : Value} (w : World) (HP : Hid (w.heap[p]? = some (.cells #[a, b, c] 52 (0, 0)))) :
    Calls Try.prog 24 #[.pointer (some ⟨p, 0, none⟩)] w fun e w' => e = .returned (.tuple #[]) ∧ w.grownBy w' (some p) ∧ w'.heap[p]? = some (.cells #[a, .bool true, .bool false] 52 (0, 0)) := by
  obtain ⟨c0, c1, c2⟩ := trio_at HP.out
  have fz := fun i => frozen_of_row w p i _ _ HP.out
  have hl := heap_lt HP.out
  go_enter Try.func24, Try.ntmps24
  go_wp2_with fail
  go_end0
  refine ⟨rfl, set_two _ _ _ _ _ _, ?_⟩
  have h1 := heap_setCell_same w p 1 _ _ (.bool true) HP.out
  exact heap_setCell_same _ p 2 _ _ (.bool false) h1
section
variable {w0 w : World} {B m L : Nat} {P : Int → Nat} {f : Int → Option Nat} {cnt : Nat} {l : List WtT} {gt : List Int} {th : Nat} {ov gv : Value}
set_option maxHeartbeats 1000000 in
set_option maxRecDepth 100000 in
theorem wakeFirst_W (HM : Hid (MemV w0 w B m L P f cnt (ptrsV P l) l gt th ov gv)) (HN : Hid (NodW l)) :
    Calls Try.prog 23 #[.pointer (some ⟨B, 0, none⟩)] w fun e w' => e = .returned (.tuple #[]) ∧ MemV w0 w' B m L P f cnt (ptrsV P l) (wakeV l) gt th ov gv ∧ KeepV w w' := by
  obtain ⟨ad, cap, hov, hA⟩ := HM.out.rows
  obtain ⟨n, hn⟩ : ∃ n, l.length = n := ⟨_, rfl⟩
  rw [ptrs_len, hn] at hov
  subst hov
  obtain ⟨c0, _, _, _⟩ := HM.out.cells
  have hBl := HM.out.lt
  have hn9 : n ≤ 9223372036854775807 := by
    obtain ⟨ad', cap', hv, h1, h2, _⟩ := own_shape HM.out.ord
    rw [ptrs_len, hn] at h1
    unfold maxLen at h2
    omega
  have HA := Lib.hid hA
  have HL := Lib.hid hn
  clear hA hn
  go_enter Try.func23, Try.ntmps23
  go_wp2_with fail
  go_loopw [9] (fun i wr => ∃ k : Nat, k ≤ n ∧ i = .int .i64 k ∧ wr = w ∧ Hid (∀ j y, j < k → l[j]? = some y → y.2 = 2)) (fun i _ => n - (intOf i).toNat)
  case atStart => exact ⟨0, Nat.zero_le _, rfl, rfl, Lib.hid (fun j y hj => by omega)⟩
  case round =>
    obtain ⟨k, hk, rfl, rfl, H2⟩ := hrel
    by_cases hlt : k < n
    · obtain ⟨q, hq⟩ : ∃ q, l[k]? = some q := ⟨l[k]'(by rw [HL.out]; exact hlt), List.getElem?_eq_getElem _⟩
      have hmem := List.mem_of_getElem? hq
      obtain ⟨b, off, rfl, _, d0⟩ := at_ptr HA.out (show (ptrsV P l)[k]? = some (P q.1) by simp [ptrsV, hq])
      obtain ⟨e0, e1, e2, hpl, fz⟩ := HM.out.thrAt hmem
      have ht := (HM.out.thr q hmem).1
      unfold ThrW at ht
      obtain ⟨t, x⟩ := q
      simp only at d0 e0 e1 e2 hpl fz ht
      obtain ⟨p, hp⟩ : ∃ p, P t = p := ⟨_, rfl⟩
      rw [hp] at d0 e0 e1 e2 hpl fz ht
      have HP := Lib.hid hp
      have HQ := Lib.hid hq
      have HMM := Lib.hid hmem
      have HT := Lib.hid ht
      clear hq hmem hp ht
      by_cases hx : x = 2
      · subst hx
        have e1' : wr.cell? ⟨p, 1, none⟩ = some (.bool true) := e1
        clear e1
        go_wp2_with fail
        go_roundw
        case rel => exact ⟨k + 1, by omega, by go_num, (by first | rfl | trivial), Lib.hid (fun j y hj hy => by
          by_cases e : j = k
          · subst e
            rw [HQ.out] at hy
            cases hy
            rfl
          · exact H2.out j y (by omega) hy)⟩
        case measure => simp [intOf]; omega
      · have hxb : (x == 2) = false := by simpa using hx
        rw [hxb] at e1
        have HW := Lib.hid (wake_put HN.out HQ.out H2.out hx)
        clear hxb
        go_wp2_with (first
          | (go_at_call 24; (with_reducible refine (wake_W _ HT).mono ?_); rintro e w2 ⟨rfl, hg, hh⟩; have G2 := Lib.hid hg; have T2 := Lib.hid hh; clear hg hh)
          | fail)
        refine bodyPost_ret (results_none rfl _ _ _) rfl ?_
        refine ⟨rfl, ?_, keep_thr HT.out G2.out⟩
        rw [HW.out]
        exact HM.out.setY HMM.out (by rw [HP.out]; exact G2.out) (by rw [HP.out]; exact T2.out)
    · obtain rfl : k = n := by omega
      have HW : Hid (wakeV l = l) := Lib.hid (wake_none fun j y hy => H2.out j y (by rw [← HL.out]; exact (List.getElem?_eq_some_iff.1 hy).1) hy)
      clear hlt hk
      go_wp2_with fail
      go_end0
      refine ⟨rfl, ?_, KeepV.refl _⟩
      rw [HW.out]
      exact HM.out
set_option maxHeartbeats 1000000 in
set_option maxRecDepth 100000 in
theorem asleep_W (HM : Hid (MemV w0 w B m L P f cnt (ptrsV P l) l gt th ov gv)) (hl : l.length ≤ 64) (sn : Nat) (hs : Hid ((slpL l).length = sn)) :
    Calls Try.prog 17 #[.pointer (some ⟨B, 0, none⟩)] w fun e w' => (∃ ra rc, e = .returned (.slice ra sn rc) ∧ shI.At w' ra rc (slpL l)) ∧ Below w.heap.size w w' := by
  obtain ⟨i0, hi, hz0, hz1, hz2⟩ := info_parts' info_int
  obtain ⟨ad, cap, hov, hA⟩ := HM.out.rows
  obtain ⟨n, hn⟩ : ∃ n, l.length = n := ⟨_, rfl⟩
  rw [ptrs_len, hn] at hov
  rw [hn] at hl
  subst hov
  obtain ⟨c0, _, _, _⟩ := HM.out.cells
  have hBl := HM.out.lt
  have HA := Lib.hid hA
  have HL := Lib.hid hn
  clear hA hn
  go_enter Try.func17, Try.ntmps17
  go_wp2_with fail
  go_loopw [3, 11] (fun v i wr => ∃ (k j : Nat) (ra : Option Addr) (rc : Nat), k ≤ n ∧ i = .int .i64 k ∧ v = .slice ra j rc ∧ Hid ((slpL (l.take k)).length = j) ∧ Hid (Below w.heap.size w wr) ∧ Hid (wr.ownsRow w.heap.size 3 1 (.slice ra j rc) j (shI.flat (slpL (l.take k))))) (fun _ i _ => n - (intOf i).toNat)
  case atStart => exact ⟨0, 0, none, 0, Nat.zero_le _, rfl, rfl, Lib.hid rfl, Lib.hid (Below.refl _ _), Lib.hid (World.ownsRow_nil _ _ _ _)⟩
  case round =>
    obtain ⟨k, j, ra, rc, hk, rfl, rfl, HJ, HB, HO⟩ := hrel
    by_cases hlt : k < n
    · obtain ⟨q, hq⟩ : ∃ q, l[k]? = some q := ⟨l[k]'(by rw [HL.out]; exact hlt), List.getElem?_eq_getElem _⟩
      have M1 := HM.out.step HB.out
      have hj : j ≤ 64 := by
        have h1 := slp_le (l.take k)
        rw [HJ.out, List.length_take] at h1
        omega
      have hnx := slp_next hq
      have hmem := List.mem_of_getElem? hq
      obtain ⟨b, off, rfl, _, d0⟩ := at_ptr (HA.out.step HB.out) (show (ptrsV P l)[k]? = some (P q.1) by simp [ptrsV, hq])
      obtain ⟨e0, _, e2, hpl, _⟩ := M1.thrAt hmem
      obtain ⟨t, x⟩ := q
      simp only at d0 e0 e2 hpl hnx
      generalize P t = p at d0 e0 e2 hpl
      by_cases hx : x = 1
      · subst hx
        rw [if_pos rfl] at hnx
        have e2' : wr.cell? ⟨p, 2, none⟩ = some (.bool true) := e2
        have HX := Lib.hid hnx
        have BX := below_alloc wr (.cells #[.int .i64 t] 3)
        have N1 : Hid (shI.At (wr.alloc (.cells #[.int .i64 t] 3)) (some ⟨wr.heap.size, 0, none⟩) 1 [t]) := Lib.hid (Shape.At.lit (S := shI) [t] (heap_alloc_new wr _))
        have O1 := Lib.hid (own_step HO.out BX)
        have hbs : w.heap.size ≤ (wr.alloc (.cells #[.int .i64 t] 3)).heap.size := (pstep HB.out BX).size
        have B1 := Lib.hid (pstep HB.out BX)
        clear e2 hnx M1 hq hmem BX
        go_wp2_with (first
          | (at_builtin; refine wpList_append_n shI rfl _ _ 24 rfl w.heap.size 3 i0 _ 8 Try.underlying24 hi hz0 hz1 hz2 rfl (.slice ra j rc) j (slpL (l.take k)) [t] HJ rfl O1.out (some ⟨wr.heap.size, 0, none⟩) 1 1 rfl (Lib.hid rfl) N1.out (by unfold maxLen; omega) (by omega) hbs ?_; intro ra4 rc4 w4 own4 grow4 _; have B4 := Lib.hid (B1.out.grown grow4 B1.out.size (fun _ hk => (own_lt O1.out hk).1)); have O4 := Lib.hid own4; clear own4 grow4)
          | fail)
        go_roundw
        case rel => exact ⟨k + 1, j + 1, ra4, rc4, by omega, by go_num, rfl, Lib.hid (by rw [HX.out, List.length_append, HJ.out]; rfl), B4, Lib.hid (by rw [HX.out]; exact O4.out)⟩
        case measure => simp [intOf]; omega
      · rw [if_neg hx, List.append_nil] at hnx
        have hxb : (x == 1) = false := by simpa using hx
        rw [hxb] at e2
        have HX := Lib.hid hnx
        clear hnx M1 hq hmem hxb
        go_wp2_with fail
        go_roundw
        case rel => exact ⟨k + 1, j, ra, rc, by omega, by go_num, rfl, Lib.hid (by rw [HX.out]; exact HJ.out), HB, Lib.hid (by rw [HX.out]; exact HO.out)⟩
        case measure => simp [intOf]; omega
    · obtain rfl : k = n := by omega
      have et : l.take k = l := by rw [← HL.out, List.take_length]
      rw [et] at HJ HO
      obtain rfl : sn = j := by rw [← hs.out]; exact HJ.out
      clear hlt hk et
      go_wp2_with fail
      go_ret
      exact ⟨⟨ra, rc, rfl, Shape.At.own (S := shI) HO.out HJ.out⟩, HB.out⟩
end
end Go.Proofs.Ytghonbiiichedaa
