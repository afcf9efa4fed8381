/- Package nest: the walk of nest.Play. -/
import Derived.Test.YteeejkcehajokaaNesD
import Derived.RegionTactic
namespace Go.Proofs.Yteeejkcehajokaa
open Go.RowKit

/-- Error codes so far, in a block of the call's own. -/
def ErrRow (w : World) (E n : Nat) (l : List Int) : Prop := ∃ cur, w.heap[E]? = some (.cells cur 26 (0, 0)) ∧ cur.size = n ∧ ∀ (j : Nat) (x : Int), l[j]? = some x → cur[j]? = some (.int .i64 x)
theorem err_at {w : World} {E n : Nat} {l : List Int} (r : ErrRow w E n l) (cap : Nat) : shI.At w (some ⟨E, 0, none⟩) cap l := by
  obtain ⟨cur, hc, _, hi⟩ := r
  refine ⟨fun e => (by cases e), fun _ => ⟨E, 0, rfl, (Array.getElem?_eq_some_iff.1 hc).1, fun k hk => ?_⟩⟩
  have hk' : k < l.length := by have : shI.size = 1 := rfl; rw [this] at hk; omega
  have hj : l[k]? = some l[k] := List.getElem?_eq_getElem hk'
  have hf := shI.flat_at l k 0 _ hj (by decide)
  have hs : shI.size = 1 := rfl
  rw [hs, Nat.mul_one, Nat.add_zero] at hf
  rw [Nat.zero_add, cell_of_row w E k _ _ _ hc, hf, hi k _ hj]
  rfl
theorem ErrRow.same {w w' : World} {E n : Nat} {l : List Int} (r : ErrRow w E n l) (h : w'.heap[E]? = w.heap[E]?) : ErrRow w' E n l := by
  obtain ⟨cur, hc, r⟩ := r
  exact ⟨cur, h.trans hc, r⟩
theorem ErrRow.lt {w : World} {E n : Nat} {l : List Int} (r : ErrRow w E n l) : E < w.heap.size := by obtain ⟨cur, hc, _⟩ := r; exact heap_lt hc
theorem ErrRow.put {w : World} {E n k : Nat} {l : List Int} (r : ErrRow w E n l) (hk : l.length = k) (hkn : k < n) (e : Int) : ErrRow (w.setCell ⟨E, k, none⟩ (.int .i64 e)) E n (l ++ [e]) := by
  obtain ⟨cur, hc, hs, hi⟩ := r
  refine ⟨_, heap_setCell_same w E k cur _ (.int .i64 e) hc, by simpa using hs, fun j x hj => ?_⟩
  rw [List.getElem?_append] at hj
  split at hj
  · rename_i hlt
    rw [Array.getElem?_setIfInBounds_ne (by omega)]
    exact hi j x hj
  · have e0 : j = k := by
      by_cases h : j = k
      · exact h
      · rw [List.getElem?_singleton, if_neg (by omega)] at hj
        cases hj
    subst e0
    rw [hk, Nat.sub_self] at hj
    simp at hj
    subst hj
    simp [Array.getElem?_setIfInBounds]
    omega
theorem ErrRow.cell {w : World} {E n k : Nat} {l : List Int} (r : ErrRow w E n l) (hk : k < n) : (∃ z, w.cell? ⟨E, k, none⟩ = some z) ∧ ∀ i, w.frozen? ⟨E, i, none⟩ = false := by
  obtain ⟨cur, hc, hs, _⟩ := r
  exact ⟨by rw [cell_of_row w E k _ _ _ hc]; exact ⟨_, Array.getElem?_eq_getElem (by omega)⟩, fun i => frozen_of_row w E i cur _ hc⟩
/-- What is in memory while Play runs. -/
structure LpN (w wx : World) (E B n : Nat) (es : List Int) (on : Bool) (v : Value) (m : Nat) (l : List FrT) : Prop where
  b : Below w.heap.size w wx
  lt : w.heap.size < E ∧ E < B
  z : wx.heap[w.heap.size]? = some (.cells #[.bool false, .slice none 0 0] 24 (0, 0))
  e : ErrRow wx E n es
  r : wx.heap[B]? = some (.cells #[.bool on, v] 24 (0, 0))
  o : wx.ownsRow w.heap.size 43 2 v m (shF.flat l)
section
variable {w wx wy : World} {E B n : Nat} {es : List Int} {on : Bool} {v : Value} {m : Nat} {l : List FrT}
theorem LpN.step (h : LpN w wx E B n es on v m l) (hb : Below wx.heap.size wx wy) : LpN w wy E B n es on v m l :=
  ⟨pstep h.b hb, h.lt, heap_step h.z hb, h.e.same (hb.block _ h.e.lt), heap_step h.r hb, own_step h.o hb⟩
theorem LpN.neE (h : LpN w wx E B n es on v m l) : ∀ g, v.ownBlock = some g → g ≠ E := by
  obtain ⟨cur, hc, _⟩ := h.e
  exact own_ne h.o hc (by decide)
theorem LpN.setE (h : LpN w wx E B n es on v m l) {k : Nat} (hk : es.length = k) (hkn : k < n) (x : Int) : LpN w (wx.setCell ⟨E, k, none⟩ (.int .i64 x)) E B n (es ++ [x]) on v m l :=
  ⟨h.b.setCell (by have := h.lt; simp; omega) _, h.lt, (Below.heap_setCell _ _ _ _ (by have := h.lt; simp; omega)).trans h.z, h.e.put hk hkn x, (Below.heap_setCell _ _ _ _ (by have := h.lt; simp; omega)).trans h.r, own_set h.o h.neE _⟩
theorem LpN.grown {v' : Value} {m' : Nat} {l' : List FrT} (h : LpN w wx E B n es on v m l) (hg : wx.grownBy wy v.ownBlock) (ho : wy.ownsRow w.heap.size 43 2 v' m' (shF.flat l')) :
    (Below w.heap.size w wy ∧ wy.heap[w.heap.size]? = some (.cells #[.bool false, .slice none 0 0] 24 (0, 0)) ∧ ErrRow wy E n es ∧ wy.heap[B]? = some (.cells #[.bool on, v] 24 (0, 0))) ∧ wy.ownsRow w.heap.size 43 2 v' m' (shF.flat l') :=
  ⟨⟨h.b.grown hg h.b.size (fun k hk => (own_lt h.o hk).1),
    (hg.block _ (heap_lt h.z) (fun e => own_ne h.o h.z (by decide) _ e.symm rfl)).trans h.z,
    h.e.same (hg.block _ h.e.lt (fun e => h.neE _ e.symm rfl)),
    (hg.block _ (heap_lt h.r) (fun e => own_ne h.o h.r (by decide) _ e.symm rfl)).trans h.r⟩, ho⟩
theorem LpN.put {v' : Value} {m' : Nat} {l' : List FrT} (on' : Bool) (hlt : w.heap.size < E ∧ E < B) (h : (Below w.heap.size w wy ∧ wy.heap[w.heap.size]? = some (.cells #[.bool false, .slice none 0 0] 24 (0, 0)) ∧ ErrRow wy E n es ∧ wy.heap[B]? = some (.cells #[.bool on, v] 24 (0, 0))) ∧ wy.ownsRow w.heap.size 43 2 v' m' (shF.flat l')) :
    LpN w ((wy.setCell ⟨B, 0, none⟩ (.bool on')).setCell ⟨B, 1, none⟩ v') E B n es on' v' m' l' := by
  obtain ⟨⟨h1, h2, h3, h4⟩, h5⟩ := h
  have n0 := own_ne h5 h4 (by decide)
  exact ⟨set2_below _ _ h1 (by omega), hlt, (Below.heap_setCell _ _ _ _ (by simp; omega)).trans ((Below.heap_setCell _ _ _ _ (by simp; omega)).trans h2), h3.same ((Below.heap_setCell _ _ _ _ (by simp; omega)).trans (Below.heap_setCell _ _ _ _ (by simp; omega))), res_stored h4, own_set (own_set h5 n0 _) n0 _⟩
end
theorem runN_take {ks : List Int} {k : Nat} {o : Int} (h : ks[k]? = some o) : runN (ks.take (k + 1)) = stepRN (runN (ks.take k)) o := by
  rw [List.take_add_one, h]
  exact runN_snoc _ _
theorem runN_len (ks : List Int) : (runN ks).1.length = ks.length := by
  have : ∀ (l : List Int) (r : List Int × CoreT), (l.foldl stepRN r).1.length = r.1.length + l.length := by
    intro l
    induction l with
    | nil => intro r; rfl
    | cons k l ih => intro r; rw [List.foldl_cons, ih]; simp [stepRN]; omega
  have h := this ks ([], c0N)
  exact h.trans (by simp)
set_option maxHeartbeats 2000000 in
set_option maxRecDepth 100000 in
theorem play_N {ad : Option Addr} {cap n : Nat} {ks : List Int} (w : World) (HA : Hid (shI.At w ad cap ks)) (hm : Hid (ks.length = n)) (hn : n ≤ 17592186044416) (es : List Int) (on : Bool) (l : List FrT) (m : Nat) (hr : Hid (runN ks = (es, ⟨on, l⟩))) (hl : Hid (l.length = m)) :
    Calls Try.prog 9 #[.slice ad n cap] w fun e w' => ∃ ea ec ra rc, e = .returned (.tuple #[.slice ea n ec, .agg #[.bool on, .slice ra m rc]]) ∧ shI.At w' ea ec es ∧ shF.At w' ra rc l ∧ Below w.heap.size w w' := by
  obtain ⟨i0, hi, hz0, hz1, hz2⟩ := info_parts' info_errno
  go_enter Try.func9, Try.ntmps9
  go_wp2_with (first
    | (at_make; refine wpList_make_full _ rfl _ _ 29 rfl w.heap.size 26 i0 _ 1 Try.underlying29 hi hz0 hz1 .i64 .i64 _ _ n rfl rfl rfl rfl ?c1 ?c2 ?c3 ?_)
    | fail)
  case c1 => rw [hz2]; omega
  case c2 => unfold maxLen; omega
  case c3 => simp
  intro w1 hown hgrow
  have Z1 := (hgrow.block w.heap.size (by simp) (fun e => by cases e)).trans (heap_alloc_new w (.cells #[.bool false, .slice none 0 0] 24))
  have B1 : Below w.heap.size w w1 := (below_alloc w _).grown hgrow (by simp) (fun k hk => by cases hk)
  have E1 : ErrRow w1 (w.heap.size + 1) n [] := by
    obtain ⟨_, h2⟩ := hown
    rcases h2 with ⟨h2, _⟩ | ⟨g, cp, cur, e, _, hc, _, _, hsz, _⟩
    · cases h2
    · simp only [Value.slice.injEq, Option.some.injEq, Addr.mk.injEq, and_true, true_and] at e
      obtain ⟨rfl, rfl⟩ := e
      exact ⟨cur, by simpa using hc, by simpa using hsz, fun j x hj => by simp at hj⟩
  have L2 : LpN w (w1.alloc (.cells #[.bool true, .slice none 0 0] 24)) (w.heap.size + 1) w1.heap.size n [] true (.slice none 0 0) 0 [] :=
    ⟨pstep B1 (below_alloc _ _), ⟨by omega, E1.lt⟩, heap_step Z1 (below_alloc _ _), E1.same (Below.heap_alloc _ _ _ E1.lt), heap_alloc_new _ _, World.ownsRow_nil _ _ _ _⟩
  have H2 := Lib.hid L2
  clear L2 hown hgrow Z1 B1 E1
  go_wp2_with fail
  generalize w1.heap.size = B at H2 ⊢
  generalize hE : w.heap.size + 1 = E at H2 ⊢
  go_loopw [14] (fun i wr => ∃ (k : Nat) (ra : Option Addr) (rc m : Nat), k ≤ n ∧ i = .int .i64 k ∧ Hid ((runN (ks.take k)).2.kept.length = m) ∧ Hid (LpN w wr E B n (runN (ks.take k)).1 (runN (ks.take k)).2.on (.slice ra m rc) m (runN (ks.take k)).2.kept)) (fun i _ => n - (intOf i).toNat)
  case atStart => exact ⟨0, none, 0, 0, Nat.zero_le _, rfl, Lib.hid rfl, H2⟩
  case round =>
    clear H2
    obtain ⟨k, ra, rc, j, hk, rfl, HM, HL⟩ := hrel
    have hev := ev_run (ks.take k)
    have hlen := runN_len (ks.take k)
    rw [List.length_take, hm.out, Nat.min_eq_left hk] at hlen
    obtain ⟨st, hst⟩ : ∃ st, runN (ks.take k) = st := ⟨_, rfl⟩
    have HN : ∀ o, ks[k]? = some o → runN (ks.take (k + 1)) = stepRN st o := fun o ho => by rw [runN_take ho, hst]
    rw [hst] at HM HL hev hlen
    have HNX := Lib.hid HN
    clear HN
    obtain ⟨es1, ⟨on1, l1⟩⟩ := st
    simp only at HM HL hev hlen
    have h400 : j ≤ 400 := by have := hev.rt.len; simp only [HM.out] at this; exact this
    by_cases hkl : k < n
    · obtain ⟨K, ho⟩ : ∃ o, ks[k]? = some o := ⟨ks[k]'(by rw [hm.out]; exact hkl), List.getElem?_eq_getElem _⟩
      have hnx := HNX.out _ ho
      obtain ⟨b, off, rfl, hb, e0⟩ := at_int HA.out ho
      have g0 := (HL.out.b.cell (p := ⟨b, off + k, none⟩) hb).trans e0
      have hbr : b < wr.heap.size := Nat.lt_of_lt_of_le hb HL.out.b.size
      have HAF := Lib.hid (Shape.At.own (S := shF) HL.out.o HM.out)
      obtain ⟨hwE, hEB⟩ := HL.out.lt
      have hne1 : ¬ E = B := by omega
      have hne2 : ¬ B = E := by omega
      have G0 := pair_at HL.out.r
      have HLEN := Lib.hid hlen
      clear e0 ho HNX hlen hst
      obtain ⟨x, hx⟩ : ∃ x, errN true ⟨on1, l1⟩ K = x := ⟨_, rfl⟩
      have HX := Lib.hid hx
      unfold stepRN at hnx
      simp only [hx] at hnx
      by_cases hx0 : x = 0
      · subst hx0
        rw [if_pos rfl] at hnx
        obtain ⟨⟨on2, l2⟩, hc⟩ : ∃ c, newN ⟨on1, l1⟩ K = c := ⟨_, rfl⟩
        rw [hc] at hnx
        have HC := Lib.hid hc
        have HNX := Lib.hid hnx
        clear hx hc hnx hev
        obtain ⟨j2, hj2⟩ : ∃ j2, l2.length = j2 := ⟨_, rfl⟩
        have HJ := Lib.hid hj2
        clear hj2
        go_wp2_with (first
          | (go_at_call 16; (with_reducible refine (check_N on1 K _ HAF HM h400 0 HX).mono ?_); rintro e w3 ⟨rfl, hb3⟩; have L3 := Lib.hid (HL.out.step hb3); have G3 := pair_at L3.out.r; have F3 := L3.out.e.cell hkl; obtain ⟨⟨z, F3z⟩, F3f⟩ := F3; have L4 := Lib.hid (L3.out.setE HLEN.out hkl 0); have S4 := Lib.hid L4.out.b.size; have R4 := Lib.hid L4.out.o; clear hb3)
          | (go_at_call 18; (with_reducible refine (perform_N (M := w.heap.size) on1 K _ R4 HM h400 (by have := S4.out; simpa using this) HX on2 l2 j2 HC HJ).mono ?_); rintro e w5 ⟨ra5, rc5, rfl, o5, hg⟩; have L5 := Lib.hid (L4.out.grown hg o5); have G5 := pair_at L5.out.1.2.2.2; have F5 := fun i => frozen_of_row w5 B i _ _ L5.out.1.2.2.2; have L6 := Lib.hid (LpN.put on2 ⟨hwE, hEB⟩ L5.out); clear hg o5)
          | fail)
        go_roundw
        case rel => exact ⟨k + 1, ra5, rc5, j2, by omega, by go_num, by rw [HNX.out]; exact HJ, by rw [HNX.out]; exact L6⟩
        case measure => simp [intOf]; omega
      · rw [if_neg hx0] at hnx
        have HNX := Lib.hid hnx
        have hx1 : (x == 0) = false := by simpa using hx0
        clear hx hnx hev
        go_wp2_with (first
          | (go_at_call 16; (with_reducible refine (check_N on1 K _ HAF HM h400 x HX).mono ?_); rintro e w3 ⟨rfl, hb3⟩; have L3 := Lib.hid (HL.out.step hb3); have G3 := pair_at L3.out.r; have F3 := L3.out.e.cell hkl; obtain ⟨⟨z, F3z⟩, F3f⟩ := F3; have L4 := Lib.hid (L3.out.setE HLEN.out hkl x); clear hb3)
          | fail)
        go_roundw
        case rel => exact ⟨k + 1, ra, rc, j, by omega, by go_num, by rw [HNX.out]; exact HM, by rw [HNX.out]; exact L4⟩
        case measure => simp [intOf]; omega
    · obtain rfl : k = n := by omega
      have hre : (es1, (⟨on1, l1⟩ : CoreT)) = (es, ⟨on, l⟩) := by rw [← hst, ← hr.out, ← hm.out, List.take_length]
      simp only [Prod.mk.injEq, CoreT.mk.injEq] at hre
      obtain ⟨rfl, rfl, rfl⟩ := hre
      obtain rfl : j = m := by rw [← HM.out, hl.out]
      have G0 := pair_at HL.out.r
      have G1 := pair_at HL.out.z
      have F1 := fun i => frozen_of_row wr w.heap.size i _ _ HL.out.z
      obtain ⟨hwE, hEB⟩ := HL.out.lt
      have hne1 : ¬ w.heap.size = B := by omega
      have hne2 : ¬ B = w.heap.size := by omega
      clear HNX hst hev hlen
      go_wp2_with fail
      go_region
      go_wp2_with fail
      refine bodyPost_ret (results_tmp1_row rfl _ _ w.heap.size 24 #[.bool on1, .slice ra j rc] (0, 0) _ rfl (res_stored HL.out.z) Try.underlying24 rfl size_core) rfl ?_
      have n0 := own_ne HL.out.o HL.out.z (by decide)
      have hE : ErrRow ((wr.drew.setCell ⟨w.heap.size, 0, none⟩ (.bool on1)).setCell ⟨w.heap.size, 1, none⟩ (.slice ra j rc)) E k es1 := HL.out.e.same ((Below.heap_setCell _ _ _ _ (by simp; omega)).trans (Below.heap_setCell _ _ _ _ (by simp; omega)))
      exact ⟨_, _, _, _, rfl, err_at hE k, Shape.At.own (S := shF) (own_set (own_set (w := wr.drew) HL.out.o n0 _) n0 _) HM.out, set2_below (wx := wr.drew) _ _ HL.out.b.drew (Nat.le_refl _)⟩
end Go.Proofs.Yteeejkcehajokaa
