/- The walk of corebellref.FQueue. -/
import Derived.Test.YtfepgebnaglkaaaTFair
namespace Go.Proofs.Ytfepgebnaglkaaa
open Go.RowKit

/-- The queue as numbers; with the first k cores of the next ticket. -/
def qI (m : Nat → Int) (a : Int) (j : Nat) : List Int := (queT m a j).map fun c : Nat => (c : Int)
def pI (m : Nat → Int) (a : Int) (j k : Nat) : List Int := qI m a j ++ (rowT m (a + j) k).map fun c : Nat => (c : Int)
theorem pI_zero (m : Nat → Int) (a : Int) (j : Nat) : pI m a j 0 = qI m a j := by simp [pI, rowT]
theorem pI_all (m : Nat → Int) (a : Int) (j : Nat) : pI m a j 8 = qI m a (j + 1) := by simp [pI, qI, queT]
theorem pI_hit {m : Nat → Int} {a : Int} {j k : Nat} (h : m k = a + j) : pI m a j (k + 1) = pI m a j k ++ [(k : Int)] := by simp [pI, rowT, h]
theorem pI_miss {m : Nat → Int} {a : Int} {j k : Nat} (h : ¬ m k = a + j) : pI m a j (k + 1) = pI m a j k := by simp [pI, rowT, h]
theorem rowT_le (m : Nat → Int) (t : Int) : ∀ k, (rowT m t k).length ≤ k
  | 0 => Nat.le_refl _
  | k + 1 => by
    have := rowT_le m t k
    rw [rowT, List.length_append]
    split <;> simp <;> omega
theorem queT_le (m : Nat → Int) (a : Int) : ∀ j, (queT m a j).length ≤ 8 * j
  | 0 => Nat.le_refl _
  | j + 1 => by
    have := queT_le m a j
    have := rowT_le m (a + j) 8
    rw [queT, List.length_append]
    omega
theorem qI_le (m : Nat → Int) (a : Int) (j : Nat) : (qI m a j).length ≤ 8 * j := by rw [qI, List.length_map]; exact queT_le m a j
theorem pI_le (m : Nat → Int) (a : Int) (j k : Nat) : (pI m a j k).length ≤ 8 * j + k := by
  have := qI_le m a j
  have := rowT_le m (a + j) k
  rw [pI, List.length_append, List.length_map]
  omega
theorem qI_at {m : Nat → Int} {a : Int} {j i : Nat} (h : i < (qI m a j).length) : ∃ c : Nat, c < 8 ∧ (queT m a j)[i]? = some c ∧ (qI m a j)[i]? = some (c : Int) := by
  rw [qI, List.length_map] at h
  have e := List.getElem?_eq_getElem h
  exact ⟨_, (queT_mem.1 (List.mem_of_getElem? e)).1, e, by rw [qI, List.getElem?_map, e]; rfl⟩
/-- The lock's box, and the queue, while it is made. -/
structure QuW (w wx : World) (R : Array Value) (qs : List Int) (v : Value) : Prop where
  b : Below w.heap.size w wx
  r : wx.heap[w.heap.size]? = some (.cells R 25 (0, 0))
  o : wx.ownsRow w.heap.size 3 1 v qs.length (shI.flat qs)
section
variable {w wx wy : World} {R : Array Value} {qs qs' : List Int} {v v' : Value}
theorem QuW.step (h : QuW w wx R qs v) (hb : Below wx.heap.size wx wy) : QuW w wy R qs v := ⟨pstep h.b hb, heap_step h.r hb, own_step h.o hb⟩
theorem QuW.grown (h : QuW w wx R qs v) (hg : wx.grownBy wy v.ownBlock) (ho : wy.ownsRow w.heap.size 3 1 v' qs'.length (shI.flat qs')) : QuW w wy R qs' v' :=
  ⟨h.b.grown hg h.b.size (fun k hk => (World.ownsRow.lt h.o k hk).1), (hg.block _ (Array.getElem?_eq_some_iff.1 h.r).1 (fun e => (own_ne h.o h.r (by decide) _ e.symm) rfl)).trans h.r, ho⟩
end
theorem hasT_none {m : Nat → Int} {k : Nat} (h : m k = -1) : hasT m (k + 1) = hasT m k := by unfold hasT; rw [sumF, if_pos h]; omega
theorem hasT_some {m : Nat → Int} {k : Nat} (h : ¬ m k = -1) : hasT m (k + 1) = hasT m k + 1 := by unfold hasT; rw [sumF, if_neg h]
theorem hasT_le (m : Nat → Int) : ∀ k, hasT m k ≤ k
  | 0 => Nat.le_refl _
  | k + 1 => by
    have := hasT_le m k
    by_cases h : m k = -1
    · rw [hasT_none h]; omega
    · rw [hasT_some h]; omega
/-- The first k cores of those that are in have the turn. -/
def InsT (l : LockT) (k : Nat) : Prop := ∀ c, c < k → l.inn c = true → l.mine c = l.now ∧ ¬ l.mine c = -1
theorem insT_next {l : LockT} {k : Nat} (h : InsT l k) (hk : l.inn k = true → l.mine k = l.now ∧ ¬ l.mine k = -1) : InsT l (k + 1) := fun c hc hi => by
  by_cases e : c = k
  · rw [e] at hi ⊢; exact hk hi
  · exact h c (by omega) hi
/-- The first k of the queue have the tickets from a on. -/
def QuOk (m : Nat → Int) (a : Int) (j k : Nat) : Prop := ∀ (i c : Nat), i < k → (queT m a j)[i]? = some c → m c = a + i
theorem quOk_next {m : Nat → Int} {a : Int} {j k c : Nat} (hc : (queT m a j)[k]? = some c) : QuOk m a j (k + 1) ↔ QuOk m a j k ∧ m c = a + k := by
  constructor
  · intro h
    exact ⟨fun i d hi => h i d (by omega), h k c (by omega) hc⟩
  · rintro ⟨h1, h2⟩ i d hi hd
    by_cases e : i = k
    · rw [e] at hd ⊢
      rw [hc] at hd
      cases hd
      exact h2
    · exact h1 i d (by omega) hd
theorem quOk_rt {l : LockT} {j x L : Nat} (h0 : 0 ≤ l.now) (h1 : l.next ≤ 1099511627776) (hj : l.next - l.now = j) (hx : hasT l.mine 8 = x) (hL : (qI l.mine l.now j).length = L) (hi : InsT l 8) : ((x = L ∧ x = j) ∧ QuOk l.mine l.now j L) ↔ Rt l := by
  rw [qI, List.length_map] at hL
  rw [← queOk_iff h0 h1 hj]
  constructor
  · rintro ⟨⟨e1, e2⟩, h⟩
    exact ⟨⟨hj, by omega, by omega⟩, fun k c hk => h k c (by rw [← hL]; exact (List.getElem?_eq_some_iff.1 hk).1) hk, hi⟩
  · rintro ⟨⟨_, e1, e2⟩, h, _⟩
    exact ⟨⟨by omega, by omega⟩, fun i c _ hc => h i c hc⟩
/-- What is known at the end of the last loop. -/
def FinIff (l : LockT) (n : Int) (j L : Nat) (ok0 : Bool) : Prop := ∀ ok : Bool, (ok = true ↔ (ok0 = true ∧ QuOk l.mine n j L)) → (ok = true ↔ Rt l)
/-- What FQueue answers. -/
def RetQ (l : LockT) (w : World) (e : Ending) (w' : World) : Prop :=
  ∃ (ra : Option Addr) (rc : Nat) (qs : List Int) (b : Bool), e = .returned (.tuple #[.slice ra qs.length rc, .bool b]) ∧ (b = true ↔ Rt l) ∧ (b = true → ∃ j : Nat, l.next - l.now = j ∧ qs = qI l.mine l.now j) ∧ qs.length ≤ 64 ∧ shI.At w' ra rc qs ∧ Below w.heap.size w w'
theorem retQ_no {l : LockT} {w w' : World} (h : ¬ Rt l) (hb : Below w.heap.size w w') : RetQ l w (.returned (.tuple #[.slice none 0 0, .bool false])) w' :=
  ⟨none, 0, [], false, rfl, ⟨(fun h => by cases h), fun q => absurd q h⟩, (fun h => by cases h), by decide, Shape.At.nil _, hb⟩
set_option maxHeartbeats 2000000 in
set_option maxRecDepth 100000 in
theorem queue_bad (l : LockT) (n nx : Int) (R : Array Value) (HR : Hid (lockRow l = R)) (HN : Hid (l.now = n)) (HX : Hid (l.next = nx)) (w : World) (h : n < 0 ∨ nx < n ∨ 1099511627776 < nx ∨ 8 < nx - n) :
    Calls Try.prog 11 #[.agg R] w (RetQ l w) := by
  have q0 : R[0]? = some (.int .i64 nx) := by rw [← HR.out, ← HX.out]; rfl
  have q1 : R[1]? = some (.int .i64 n) := by rw [← HR.out, ← HN.out]; rfl
  have B0 := Lib.hid (below_alloc w (.cells R 25))
  have hno : ¬ Rt l := fun q => by
    have h1 := q.lo
    have h2 := q.le
    have h3 := q.hi
    have h4 := q.eight
    rw [HN.out] at h1 h2 h4
    rw [HX.out] at h2 h3 h4
    omega
  have HNO := Lib.hid hno
  clear hno
  by_cases h0 : n < 0
  · go_enter Try.func11, Try.ntmps11
    go_wp2_with fail
    go_ret2
    exact retQ_no HNO.out B0.out
  by_cases h1 : nx < n
  · go_enter Try.func11, Try.ntmps11
    go_wp2_with fail
    go_ret2
    exact retQ_no HNO.out B0.out
  by_cases h2 : 1099511627776 < nx
  · go_enter Try.func11, Try.ntmps11
    go_wp2_with fail
    go_ret2
    exact retQ_no HNO.out B0.out
  · have h3 : 8 < nx - n := by omega
    go_enter Try.func11, Try.ntmps11
    go_wp2_with fail
    go_ret2
    exact retQ_no HNO.out B0.out
set_option maxHeartbeats 4000000 in
set_option maxRecDepth 100000 in
theorem queue_core (l : LockT) (n : Int) (J : Nat) (nx : Int) (hnx : nx = n + J) (R : Array Value) (HR : Hid (lockRow l = R)) (HN : Hid (l.now = n)) (HX : Hid (l.next = nx)) (h0 : 0 ≤ n) (h2 : nx ≤ 1099511627776) (hJ : J ≤ 8) (w : World) :
    Calls Try.prog 11 #[.agg R] w (RetQ l w) := by
  obtain ⟨i0, hi, hz0, hz1, hz2⟩ := info_parts info_int
  have q0 : R[0]? = some (.int .i64 nx) := by rw [← HR.out, ← HX.out]; rfl
  have q1 : R[1]? = some (.int .i64 n) := by rw [← HR.out, ← HN.out]; rfl
  have qm : ∀ i, i < 8 → R[2 + i]? = some (.int .i64 (l.mine i)) := fun i hi => by rw [← HR.out, lockRow_mine _ hi]
  have qi : ∀ i, i < 8 → R[10 + i]? = some (.bool (l.inn i)) := fun i hi => by rw [← HR.out, lockRow_inn _ hi]
  have Q0 := Lib.hid q0
  have Q1 := Lib.hid q1
  have QM := Lib.hid qm
  have QI := Lib.hid qi
  have hle : ¬ nx < n := by omega
  have h8 : ¬ 8 < nx - n := by omega
  have W0 : Hid (QuW w (w.alloc (.cells R 25)) R [] (.slice none 0 0)) := Lib.hid ⟨below_alloc _ _, heap_alloc_new _ _, World.ownsRow_nil _ _ _ _⟩
  have HNX := Lib.hid hnx
  clear hnx qm qi
  go_enter Try.func11, Try.ntmps11
  go_wp2_with fail
  clear q0 q1
  go_loopw [4, 5] (fun v t wr => ∃ (j : Nat) (va : Option Addr) (vc : Nat), j ≤ J ∧ t = .int .i64 (n + j) ∧ v = .slice va (qI l.mine n j).length vc ∧ Hid (QuW w wr R (qI l.mine n j) v)) (fun _ t _ => (nx - intOf t).toNat)
  case atStart => exact ⟨0, none, 0, Nat.zero_le _, by simp, rfl, W0⟩
  case round =>
    clear W0
    obtain ⟨j, va, vc, hj, rfl, rfl, W1⟩ := hrel
    have c0 := box_cells W1.out.r 0 _ Q0.out
    by_cases hjl : j < J
    · have hd : decide (n + (j : Int) < nx) = true := decide_eq_true (by have := HNX.out; omega)
      have d0 := box_cells W1.out.r 2 _ (QM.out 0 (by decide))
      have d1 := box_cells W1.out.r 3 _ (QM.out 1 (by decide))
      have d2 := box_cells W1.out.r 4 _ (QM.out 2 (by decide))
      have d3 := box_cells W1.out.r 5 _ (QM.out 3 (by decide))
      have d4 := box_cells W1.out.r 6 _ (QM.out 4 (by decide))
      have d5 := box_cells W1.out.r 7 _ (QM.out 5 (by decide))
      have d6 := box_cells W1.out.r 8 _ (QM.out 6 (by decide))
      have d7 := box_cells W1.out.r 9 _ (QM.out 7 (by decide))
      go_wp2_with fail
      clear c0 d0 d1 d2 d3 d4 d5 d6 d7
      go_loopw [4, 47] (fun v i wr => ∃ (k : Nat) (va : Option Addr) (vc : Nat), k ≤ 8 ∧ i = .int .i64 k ∧ v = .slice va (pI l.mine n j k).length vc ∧ Hid (QuW w wr R (pI l.mine n j k) v)) (fun _ i _ => 8 - (intOf i).toNat)
      case atStart => exact ⟨0, va, vc, by omega, rfl, by rw [pI_zero], by rw [pI_zero]; exact W1⟩
      case round =>
        clear W1
        obtain ⟨k, va, vc, hk, rfl, rfl, W2⟩ := hrel
        have hpl := pI_le l.mine n j k
        obtain ⟨xs, hxs⟩ : ∃ xs, pI l.mine n j k = xs := ⟨_, rfl⟩
        rw [hxs] at W2 hpl ⊢
        have HXS := Lib.hid hxs
        clear hxs
        by_cases hlt : k < 8
        · have hidx := fun w => idx_ints l.mine k hlt w
          obtain ⟨m, hm⟩ : ∃ m, l.mine k = m := ⟨_, rfl⟩
          rw [hm] at hidx
          have HM := Lib.hid hm
          clear hm
          obtain ⟨wo, rfl⟩ : ∃ wo : World, wo = wr := ⟨_, rfl⟩
          by_cases e : m = n + j
          · have e1 : (m == n + (j : Int)) = true := by simpa using e
            have W3 := Lib.hid (W2.out.step (below_alloc wo (.cells #[.int .i64 (k : Int)] 3)))
            have Y3 := Lib.hid (int_new wo (k : Int))
            have HH := Lib.hid (pI_hit (m := l.mine) (a := n) (j := j) (k := k) (by rw [HM.out]; exact e))
            clear e
            go_wp2_with (first
              | (at_builtin; refine wpList_append_at shI rfl _ _ 31 rfl w.heap.size 3 i0 _ 8 Try.underlying31 hi hz0 hz1 hz2 rfl (.slice va xs.length vc) xs [(k : Int)] rfl W3.out.o (some ⟨wo.heap.size, 0, none⟩) 1 1 rfl (Lib.hid rfl) Y3.out ?h63 ?hby ?hba ?_)
              | fail)
            case h63 => unfold maxLen; omega
            case hby => omega
            case hba => have := W2.out.b.size; simp; omega
            intro va' vc' w4 own4 grow4 _
            have W4 := Lib.hid (W3.out.grown grow4 (qs' := xs ++ [(k : Int)]) (by rw [List.length_append, List.length_singleton]; exact own4))
            clear own4 grow4
            go_wp2_with fail
            go_roundw
            case rel => exact ⟨k + 1, va', vc', by omega, by go_num, by rw [HH.out, HXS.out, List.length_append, List.length_singleton], by rw [HH.out, HXS.out]; exact W4⟩
            case measure => simp [intOf]; omega
          · have e1 : (m == n + (j : Int)) = false := by simpa using e
            have HH := Lib.hid (pI_miss (m := l.mine) (a := n) (j := j) (k := k) (by rw [HM.out]; exact e))
            clear e
            go_wp2_with fail
            go_roundw
            case rel => exact ⟨k + 1, va, vc, by omega, by go_num, by rw [HH.out, HXS.out], by rw [HH.out, HXS.out]; exact W2⟩
            case measure => simp [intOf]; omega
        · obtain rfl : k = 8 := by omega
          have HXS2 := Lib.hid (HXS.out.symm.trans (pI_all _ _ _))
          go_wp2_with fail
          go_roundw
          case rel => exact ⟨j + 1, va, vc, by omega, by go_num, by rw [← HXS2.out], by rw [← HXS2.out]; exact W2⟩
          case measure => have := HNX.out; simp [intOf]; omega
    · obtain rfl : j = J := by omega
      have hd : decide (n + (j : Int) < nx) = false := decide_eq_false (by have := HNX.out; omega)
      have d0 := box_cells W1.out.r 2 _ (QM.out 0 (by decide))
      have d1 := box_cells W1.out.r 3 _ (QM.out 1 (by decide))
      have d2 := box_cells W1.out.r 4 _ (QM.out 2 (by decide))
      have d3 := box_cells W1.out.r 5 _ (QM.out 3 (by decide))
      have d4 := box_cells W1.out.r 6 _ (QM.out 4 (by decide))
      have d5 := box_cells W1.out.r 7 _ (QM.out 5 (by decide))
      have d6 := box_cells W1.out.r 8 _ (QM.out 6 (by decide))
      have d7 := box_cells W1.out.r 9 _ (QM.out 7 (by decide))
      have hql := qI_le l.mine n j
      obtain ⟨L, hL⟩ : ∃ L, (qI l.mine n j).length = L := ⟨_, rfl⟩
      rw [hL] at hql ⊢
      have HL := Lib.hid hL
      clear hL
      go_wp2_with fail
      clear d0 d1 d2 d3 d4 d5 d6 d7
      have c1 := box_cells W1.out.r 1 _ Q1.out
      go_loop [8, 61] (fun x i => ∃ k : Nat, k ≤ 8 ∧ i = .int .i64 k ∧ x = .int .i64 (hasT l.mine k : Nat) ∧ Hid (InsT l k)) (fun _ i => 8 - (intOf i).toNat)
      case atStart => exact ⟨0, by omega, rfl, rfl, Lib.hid fun c hc => by omega⟩
      case round =>
        obtain ⟨k, hk, rfl, rfl, HI⟩ := hrel
        have hhl := hasT_le l.mine k
        obtain ⟨x, hx⟩ : ∃ x, hasT l.mine k = x := ⟨_, rfl⟩
        have HX1 := Lib.hid hx
        rw [hx] at hhl ⊢
        clear hx
        by_cases hlt : k < 8
        · have hidx := fun w => idx_ints l.mine k hlt w
          have hk' : (k : Int) < 8 := by omega
          obtain ⟨m, hm⟩ : ∃ m, l.mine k = m := ⟨_, rfl⟩
          rw [hm] at hidx
          have HM := Lib.hid hm
          clear hm
          obtain ⟨t, ht⟩ : ∃ t, l.inn k = t := ⟨_, rfl⟩
          have ct := box_cells W1.out.r (10 + k) _ (QI.out k hlt)
          rw [ht] at ct
          have HT := Lib.hid ht
          clear ht
          by_cases e : m = -1
          · subst e
            have HH := Lib.hid (hasT_none HM.out)
            cases t with
            | false =>
              go_wp2_with fail
              go_round
              case rel => exact ⟨k + 1, by omega, by go_num, by rw [HH.out, HX1.out], Lib.hid (insT_next HI.out fun q => by rw [HT.out] at q; cases q)⟩
              case measure => simp [intOf]; omega
            | true =>
              go_wp2_with fail
              go_ret2
              exact retQ_no (fun q => (q.ins k hlt HT.out).2 HM.out) W1.out.b
          · have e1 : (m == -1) = false := by simpa using e
            have e2 : (m != -1) = true := by simpa using e
            have HH := Lib.hid (hasT_some (m := l.mine) (k := k) (by rw [HM.out]; exact e))
            cases t with
            | false =>
              go_wp2_with fail
              go_round
              case rel => exact ⟨k + 1, by omega, by go_num, by rw [HH.out, HX1.out]; go_num, Lib.hid (insT_next HI.out fun q => by rw [HT.out] at q; cases q)⟩
              case measure => simp [intOf]; omega
            | true =>
              by_cases g : m = n
              · have g2 : (m != n) = false := by simpa using g
                go_wp2_with fail
                go_round
                case rel => exact ⟨k + 1, by omega, by go_num, by rw [HH.out, HX1.out]; go_num, Lib.hid (insT_next HI.out fun _ => ⟨by rw [HM.out, HN.out]; exact g, by rw [HM.out]; exact e⟩)⟩
                case measure => simp [intOf]; omega
              · have g2 : (m != n) = true := by simpa using g
                go_wp2_with fail
                go_ret2
                exact retQ_no (fun q => g (by rw [← HM.out, ← HN.out]; exact (q.ins k hlt HT.out).1)) W1.out.b
        · obtain rfl : k = 8 := by omega
          have hsub : nx - n = (j : Int) := by have := HNX.out; omega
          obtain ⟨o1, ho1⟩ : ∃ o1, ((x : Int) == (L : Int)) = o1 := ⟨_, rfl⟩
          obtain ⟨o2, ho2⟩ : ∃ o2, ((x : Int) == (j : Int)) = o2 := ⟨_, rfl⟩
          obtain ⟨ok0, hok0⟩ : ∃ ok0, (o1 && o2) = ok0 := ⟨_, rfl⟩
          have hok : ok0 = true ↔ (x = L ∧ x = j) := by rw [← hok0, ← ho1, ← ho2]; simp; omega
          have hj1 := HNX.out
          have hq := quOk_rt (l := l) (j := j) (x := x) (L := L) (by rw [HN.out]; exact h0) (by rw [HX.out]; exact h2) (by rw [HX.out, HN.out]; omega) HX1.out (by rw [HN.out]; exact HL.out) HI.out
          rw [HN.out] at hq
          have HFIN : Hid (FinIff l n j L ok0) := Lib.hid fun ok h => h.trans ((and_congr hok Iff.rfl).trans hq)
          clear hok hq hj1
          have A1 : Hid (shI.At wr va vc (qI l.mine n j)) := by
            obtain ⟨ad2, cap2, e2, at2⟩ := Shape.At.of_row W1.out.o
            simp only [Value.slice.injEq] at e2
            obtain ⟨rfl, _, rfl⟩ := e2
            exact Lib.hid at2
          cases o1 with
          | false =>
            have hf : ok0 = false := by rw [← hok0]; rfl
            subst hf
            clear hok0 ho2
            go_wp2_with fail
            clear c1 c0
            go_loopw [11, 99] (fun o i wr' => ∃ (k : Nat) (ok : Bool), k ≤ L ∧ i = .int .i64 k ∧ o = .bool ok ∧ Hid (ok = true ↔ (false = true ∧ QuOk l.mine n j k)) ∧ ∃ q, wr' = wr.drewN q) (fun _ i _ => L - (intOf i).toNat)
            case atStart => exact ⟨0, false, Nat.zero_le _, rfl, rfl, Lib.hid ⟨fun h => ⟨h, fun i c hi => by omega⟩, fun h => h.1⟩, 0, rfl⟩
            case round =>
              obtain ⟨k, ok, hk, rfl, rfl, HO, q, rfl⟩ := hrel
              by_cases hkl : k < L
              · obtain ⟨c, hc8, hc1, hc2⟩ := qI_at (m := l.mine) (a := n) (j := j) (i := k) (by rw [HL.out]; exact hkl)
                obtain ⟨b, off, rfl, _, ce⟩ := at_int A1.out hc2
                have HC1 := Lib.hid hc1
                have hc8' : (c : Int) < 8 := by omega
                clear hc1 hc2
                cases ok with
                | false =>
                  go_wp2_with fail
                  go_quiet (fail)
                  go_wp2_with fail
                  go_roundw
                  case rel => exact ⟨k + 1, false, by omega, by go_num, rfl, Lib.hid ⟨(fun h => by cases h), fun h => HO.out.2 ⟨h.1, ((quOk_next HC1.out).1 h.2).1⟩⟩, _, rfl⟩
                  case measure => simp [intOf]; omega
                | true =>
                  have HO' := Lib.hid (HO.out.1 rfl)
                  clear HO
                  have c1 := box_cells W1.out.r 1 _ Q1.out
                  obtain ⟨m, hm⟩ : ∃ m, l.mine c = m := ⟨_, rfl⟩
                  have cm := box_cells W1.out.r (2 + c) _ (QM.out c hc8)
                  rw [hm] at cm
                  have HM := Lib.hid hm
                  clear hm
                  have hk64 : k ≤ 64 := by omega
                  obtain ⟨g, hg⟩ : ∃ g, (m == n + (k : Int)) = g := ⟨_, rfl⟩
                  go_wp2_with fail
                  go_quiet (fail)
                  go_wp2_with fail
                  go_roundw
                  case rel => exact ⟨k + 1, g, by omega, by go_num, rfl, Lib.hid (by rw [quOk_next HC1.out, HM.out, ← hg]; simp only [beq_iff_eq]; exact ⟨fun h => ⟨HO'.out.1, HO'.out.2, h⟩, fun h => h.2.2⟩), _, rfl⟩
                  case measure => simp [intOf]; omega
              · obtain rfl : k = L := by omega
                go_wp2_with fail
                go_ret2
                have hj := HNX.out
                refine ⟨va, vc, qI l.mine n j, ok, by rw [HL.out]; rfl, HFIN.out ok HO.out, fun _ => ⟨j, by rw [HX.out, HN.out]; omega, by rw [HN.out]⟩, by rw [HL.out]; omega, A1.out.step (below_drewN (Below.refl _ _) _), below_drewN W1.out.b _⟩
          | true =>
            have hf : ok0 = o2 := by rw [← hok0]; simp
            subst hf
            clear hok0
            go_wp2_with fail
            clear c1 c0
            go_loopw [11, 99] (fun o i wr' => ∃ (k : Nat) (ok : Bool), k ≤ L ∧ i = .int .i64 k ∧ o = .bool ok ∧ Hid (ok = true ↔ (ok0 = true ∧ QuOk l.mine n j k)) ∧ ∃ q, wr' = wr.drewN q) (fun _ i _ => L - (intOf i).toNat)
            case atStart => exact ⟨0, ok0, Nat.zero_le _, rfl, rfl, Lib.hid ⟨fun h => ⟨h, fun i c hi => by omega⟩, fun h => h.1⟩, 0, rfl⟩
            case round =>
              obtain ⟨k, ok, hk, rfl, rfl, HO, q, rfl⟩ := hrel
              by_cases hkl : k < L
              · obtain ⟨c, hc8, hc1, hc2⟩ := qI_at (m := l.mine) (a := n) (j := j) (i := k) (by rw [HL.out]; exact hkl)
                obtain ⟨b, off, rfl, _, ce⟩ := at_int A1.out hc2
                have HC1 := Lib.hid hc1
                have hc8' : (c : Int) < 8 := by omega
                clear hc1 hc2
                cases ok with
                | false =>
                  go_wp2_with fail
                  go_quiet (fail)
                  go_wp2_with fail
                  go_roundw
                  case rel => exact ⟨k + 1, false, by omega, by go_num, rfl, Lib.hid ⟨(fun h => by cases h), fun h => HO.out.2 ⟨h.1, ((quOk_next HC1.out).1 h.2).1⟩⟩, _, rfl⟩
                  case measure => simp [intOf]; omega
                | true =>
                  have HO' := Lib.hid (HO.out.1 rfl)
                  clear HO
                  have c1 := box_cells W1.out.r 1 _ Q1.out
                  obtain ⟨m, hm⟩ : ∃ m, l.mine c = m := ⟨_, rfl⟩
                  have cm := box_cells W1.out.r (2 + c) _ (QM.out c hc8)
                  rw [hm] at cm
                  have HM := Lib.hid hm
                  clear hm
                  have hk64 : k ≤ 64 := by omega
                  obtain ⟨g, hg⟩ : ∃ g, (m == n + (k : Int)) = g := ⟨_, rfl⟩
                  go_wp2_with fail
                  go_quiet (fail)
                  go_wp2_with fail
                  go_roundw
                  case rel => exact ⟨k + 1, g, by omega, by go_num, rfl, Lib.hid (by rw [quOk_next HC1.out, HM.out, ← hg]; simp only [beq_iff_eq]; exact ⟨fun h => ⟨HO'.out.1, HO'.out.2, h⟩, fun h => h.2.2⟩), _, rfl⟩
                  case measure => simp [intOf]; omega
              · obtain rfl : k = L := by omega
                go_wp2_with fail
                go_ret2
                have hj := HNX.out
                refine ⟨va, vc, qI l.mine n j, ok, by rw [HL.out]; rfl, HFIN.out ok HO.out, fun _ => ⟨j, by rw [HX.out, HN.out]; omega, by rw [HN.out]⟩, by rw [HL.out]; omega, A1.out.step (below_drewN (Below.refl _ _) _), below_drewN W1.out.b _⟩
/-- corebellref.FQueue, for every lock. -/
theorem queue_R (l : LockT) (R : Array Value) (HR : Hid (lockRow l = R)) (w : World) : Calls Try.prog 11 #[.agg R] w (RetQ l w) := by
  by_cases h : l.now < 0 ∨ l.next < l.now ∨ 1099511627776 < l.next ∨ 8 < l.next - l.now
  · exact queue_bad l _ _ R HR (Lib.hid rfl) (Lib.hid rfl) w h
  · obtain ⟨j, hj⟩ : ∃ j : Nat, l.next - l.now = j := ⟨(l.next - l.now).toNat, by omega⟩
    exact queue_core l _ j _ (by omega) R HR (Lib.hid rfl) (Lib.hid rfl) (by omega) (by omega) (by omega) w
end Go.Proofs.Ytfepgebnaglkaaa
