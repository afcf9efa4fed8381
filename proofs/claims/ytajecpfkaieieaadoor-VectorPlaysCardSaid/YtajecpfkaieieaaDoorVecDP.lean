/- The walk of corebellref.DPlay: it answers what the plain run says. -/
import Derived.Test.YtajecpfkaieieaaDoorVecD
import Derived.Deep.CutRange
import Derived.Deep.CutBlock
namespace Go.Proofs.YtajecpfkaieieaaDoor
open Go.RowKit

theorem find_V {B CB OB cap : Nat} {l : List SlotT} (w : World) (cores n : Nat) (M but : Int) (h8 : cores ≤ 8) (hn : n ≤ 2000) (hll : Hid (l.length = n)) (HG : Hid (GoodV cores l)) (HS : Hid (shS.At w (some ⟨B, 0, none⟩) cap l)) (c1 : w.cell? ⟨CB, 0, none⟩ = some (.int .i64 (cores : Int))) (c2 : w.cell? ⟨OB, 0, none⟩ = some (.slice (some ⟨B, 0, none⟩) n cap)) (hCB : CB < w.heap.size) (hOB : OB < w.heap.size)
    (p : Option Nat) (HP : Hid (pick (cntV l) (okD M but) cores = p)) :
    Calls Tryd.prog 12 #[.int .i64 M, .int .i64 but, .pointer (some ⟨CB, 0, none⟩), .pointer (some ⟨OB, 0, none⟩)] w fun e w' => e = .returned (findV l p) ∧ Below w.heap.size w w' :=
  find_core (boolsD 256) (zero_of_info info_rowD).1 (Lib.hid fun v hv => boolsD_at 256 v hv) w cores n M but h8 hn hll HG HS c1 c2 hCB hOB p HP
theorem info_errD : (Tryd.prog.info? 25).map (fun i => (i.zero, i.size, i.bytes)) = some (some (.int .i64 0), 1, 8) := by kernel_rfl
set_option maxHeartbeats 1000000 in
set_option maxRecDepth 100000 in
theorem dplay_bad (c n : Int) (v : Value) (w : World) (h : c < 1 ∨ 8 < c ∨ n < 0 ∨ 2000 < n) :
    Calls Tryd.prog 6 #[.int .i64 c, .int .i64 n, v] w fun e w' => e = .returned (.tuple #[.slice none 0 0, .slice none 0 0, .int .i64 2]) ∧ Below w.heap.size w w' := by
  by_cases h1 : c < 1
  · go_enter Tryd.func6, Tryd.ntmps6
    go_wp2_with fail
    refine bodyPost_ret (results_tmp3 rfl _ _ _) rfl ?_
    exact ⟨rfl, below_alloc _ _⟩
  by_cases h2 : 8 < c
  · go_enter Tryd.func6, Tryd.ntmps6
    go_wp2_with fail
    refine bodyPost_ret (results_tmp3 rfl _ _ _) rfl ?_
    exact ⟨rfl, below_alloc _ _⟩
  by_cases h3 : n < 0
  · go_enter Tryd.func6, Tryd.ntmps6
    go_wp2_with fail
    refine bodyPost_ret (results_tmp3 rfl _ _ _) rfl ?_
    exact ⟨rfl, below_alloc _ _⟩
  · have h4 : 2000 < n := by omega
    go_enter Tryd.func6, Tryd.ntmps6
    go_wp2_with fail
    refine bodyPost_ret (results_tmp3 rfl _ _ _) rfl ?_
    exact ⟨rfl, below_alloc _ _⟩
/-- A slot is written. -/
theorem SlotRow.put {w : World} {B k : Nat} {l : List SlotT} (h3 : SlotRow w B l) (h : k < l.length) (s : SlotT) : SlotRow ((w.setCell ⟨B, k * 2, none⟩ (.int .i64 (s.core : Int))).setCell ⟨B, k * 2 + 1, none⟩ (.int .i64 (s.vec : Int))) B (l.set k s) := by
  obtain ⟨cur, hc, hi⟩ := h3
  have hs : k * 2 + 1 < cur.size := (Array.getElem?_eq_some_iff.1 (hi k h).2).1
  have g1 := heap_setCell_same w B (k * 2) cur _ (.int .i64 (s.core : Int)) hc
  have g2 := heap_setCell_same _ B (k * 2 + 1) _ _ (.int .i64 (s.vec : Int)) g1
  refine ⟨_, g2, fun j hj => ?_⟩
  simp only [List.length_set] at hj
  by_cases e : j = k
  · subst e
    have eg : (l.set j s).getD j zs = s := by simp [List.getD_eq_getElem?_getD, h]
    rw [eg]
    refine ⟨?_, ?_⟩ <;> simp [Array.getElem?_setIfInBounds] <;> omega
  · have eg : (l.set k s).getD j zs = l.getD j zs := by
      rw [List.getD_eq_getElem?_getD, List.getD_eq_getElem?_getD, List.getElem?_set_ne (fun x => e x.symm)]
    rw [eg]
    refine ⟨?_, ?_⟩
    · rw [Array.getElem?_setIfInBounds_ne (by omega), Array.getElem?_setIfInBounds_ne (by omega)]
      exact (hi j hj).1
    · rw [Array.getElem?_setIfInBounds_ne (by omega), Array.getElem?_setIfInBounds_ne (by omega)]
      exact (hi j hj).2
/-- DPlay's variables: block C holds the number of cores, block O the slice of the slots, block B these. -/
def DRow (w0 : World) (C B O cores : Nat) (l : List SlotT) (w : World) : Prop :=
  Below w0.heap.size w0 w ∧ (w0.heap.size ≤ C ∧ C < B ∧ B < O) ∧ w.heap[C]? = some (.cells #[.int .i64 (cores : Int)] 3 (0, 0)) ∧ w.heap[O]? = some (.cells #[.slice (some ⟨B, 0, none⟩) l.length l.length] 24 (0, 0)) ∧ SlotRow w B l
section
variable {w0 w w' : World} {C B O cores : Nat} {l : List SlotT}
theorem DRow.lt (r : DRow w0 C B O cores l w) : O < w.heap.size := (Array.getElem?_eq_some_iff.1 r.2.2.2.1).1
theorem DRow.step (r : DRow w0 C B O cores l w) (hb : Below w.heap.size w w') : DRow w0 C B O cores l w' := by
  have h5 := r.lt
  obtain ⟨h1, h2, h3, h4, h6⟩ := r
  exact ⟨pstep h1 hb, h2, by rw [hb.block C (by omega)]; exact h3, by rw [hb.block O h5]; exact h4, h6.same (hb.block B (by omega))⟩
theorem DRow.own (r : DRow w0 C B O cores l w) (hb : Below (O + 1) w w') (hb0 : Below w0.heap.size w w') : DRow w0 C B O cores l w' := by
  obtain ⟨h1, h2, h3, h4, h6⟩ := r
  exact ⟨h1.trans hb0, h2, by rw [hb.block C (by omega)]; exact h3, by rw [hb.block O (by omega)]; exact h4, h6.same (hb.block B (by omega))⟩
theorem DRow.nc (r : DRow w0 C B O cores l w) : w.cell? ⟨C, 0, none⟩ = some (.int .i64 (cores : Int)) := by rw [cell_of_row w C 0 _ _ _ r.2.2.1]; rfl
theorem DRow.of (r : DRow w0 C B O cores l w) : w.cell? ⟨O, 0, none⟩ = some (.slice (some ⟨B, 0, none⟩) l.length l.length) := by rw [cell_of_row w O 0 _ _ _ r.2.2.2.1]; rfl
theorem DRow.slot (r : DRow w0 C B O cores l w) {k : Nat} (h : k < l.length) : w.cell? ⟨B, k * 2, none⟩ = some (.int .i64 ((l.getD k zs).core : Int)) ∧ w.cell? ⟨B, k * 2 + 1, none⟩ = some (.int .i64 ((l.getD k zs).vec : Int)) := by
  obtain ⟨cur, hc, h1⟩ := r.2.2.2.2
  exact ⟨by rw [cell_of_row w B _ _ _ _ hc]; exact (h1 k h).1, by rw [cell_of_row w B _ _ _ _ hc]; exact (h1 k h).2⟩
theorem DRow.frozen (r : DRow w0 C B O cores l w) (i : Nat) : w.frozen? ⟨B, i, none⟩ = false := by
  obtain ⟨cur, hc, _⟩ := r.2.2.2.2
  exact frozen_of_row w B i cur _ hc
theorem DRow.put (r : DRow w0 C B O cores l w) {k : Nat} (h : k < l.length) (s : SlotT) : DRow w0 C B O cores (l.set k s) ((w.setCell ⟨B, k * 2, none⟩ (.int .i64 (s.core : Int))).setCell ⟨B, k * 2 + 1, none⟩ (.int .i64 (s.vec : Int))) := by
  obtain ⟨h1, h2, h3, h4, h6⟩ := r
  have ho : ∀ (w : World) (c i : Nat) (v : Value), c ≠ B → (w.setCell ⟨B, i, none⟩ v).heap[c]? = w.heap[c]? := fun w c i v hc => heap_setCell_other _ _ _ _ (show c ≠ (⟨B, i, none⟩ : Addr).block from hc)
  exact ⟨(h1.setCell (p := ⟨B, k * 2, none⟩) (by show w0.heap.size ≤ B; omega) _).setCell (p := ⟨B, k * 2 + 1, none⟩) (by show w0.heap.size ≤ B; omega) _, h2, by rw [ho _ _ _ _ (by omega), ho _ _ _ _ (by omega)]; exact h3, by rw [ho _ _ _ _ (by omega), ho _ _ _ _ (by omega), List.length_set]; exact h4, h6.put h s⟩
end
theorem runV_takeD {cores n k : Nat} {ops : List VopT} {o : VopT} (h : ops[k]? = some o) : runV cores n (ops.take (k + 1)) = nextV cores (runV cores n (ops.take k)) o := by
  rw [List.take_add_one, h]
  exact runV_snoc cores n (ops.take k) o
section
variable {cores : Nat} {l : List SlotT} {K L M : Int} {k : Nat}
theorem stepD_kind (h : ¬ (1 ≤ K ∧ K ≤ 3)) : stepV cores l ⟨K, L, M⟩ = (l, 5) := by
  have e : errV l ⟨K, L, M⟩ = 5 := if_pos h
  unfold stepV
  rw [e, if_pos (by decide)]
theorem stepD_range (hk : 1 ≤ K ∧ K ≤ 3) (h : ¬ (0 ≤ L ∧ L < l.length)) : stepV cores l ⟨K, L, M⟩ = (l, 2) := by
  have e : errV l ⟨K, L, M⟩ = 2 := by
    unfold errV
    rw [if_neg (fun g => g hk), if_pos h]
  unfold stepV
  rw [e, if_pos (by decide)]
theorem stepD_held (hk : k < l.length) (h : 0 < (l.getD k zs).vec) : stepV cores l ⟨1, (k : Int), M⟩ = (l, 6) := by
  have e : errV l ⟨1, (k : Int), M⟩ = 6 := by
    show (if ¬ (1 ≤ (1 : Int) ∧ (1 : Int) ≤ 3) then (5 : Int) else if ¬ (0 ≤ (k : Int) ∧ (k : Int) < l.length) then 2 else if (1 : Int) = 1 ∧ 0 < (l.getD k zs).vec then 6 else if ¬ (1 : Int) = 1 ∧ ¬ 0 < (l.getD k zs).vec then 3 else 0) = 6
    rw [if_neg (by decide), if_neg (by omega), if_pos ⟨rfl, h⟩]
  unfold stepV
  rw [e, if_pos (by decide)]
theorem stepD_none (h1 : 1 ≤ K ∧ K ≤ 3) (h2 : ¬ K = 1) (hk : k < l.length) (h : (l.getD k zs).vec = 0) : stepV cores l ⟨K, (k : Int), M⟩ = (l, 3) := by
  have e : errV l ⟨K, (k : Int), M⟩ = 3 := by
    show (if ¬ (1 ≤ (K : Int) ∧ (K : Int) ≤ 3) then (5 : Int) else if ¬ (0 ≤ (k : Int) ∧ (k : Int) < l.length) then 2 else if (K : Int) = 1 ∧ 0 < (l.getD k zs).vec then 6 else if ¬ (K : Int) = 1 ∧ ¬ 0 < (l.getD k zs).vec then 3 else 0) = 3
    rw [if_neg (by omega), if_neg (by omega), if_neg (by omega), if_pos (by omega)]
  unfold stepV
  rw [e, if_pos (by decide)]
theorem stepD_give (hk : k < l.length) (h : 0 < (l.getD k zs).vec) : stepV cores l ⟨2, (k : Int), M⟩ = (l.set k zs, 0) := by
  have e : errV l ⟨2, (k : Int), M⟩ = 0 := by
    show (if ¬ (1 ≤ (2 : Int) ∧ (2 : Int) ≤ 3) then (5 : Int) else if ¬ (0 ≤ (k : Int) ∧ (k : Int) < l.length) then 2 else if (2 : Int) = 1 ∧ 0 < (l.getD k zs).vec then 6 else if ¬ (2 : Int) = 1 ∧ ¬ 0 < (l.getD k zs).vec then 3 else 0) = 0
    rw [if_neg (by decide), if_neg (by omega), if_neg (by omega), if_neg (by omega)]
  unfold stepV
  rw [e, if_neg (by decide)]
  exact if_pos rfl
/-- What the search's answer makes of the slots. -/
def putD (l : List SlotT) (k : Nat) : Option Nat → List SlotT × Int
  | none => (l, 4)
  | some c => (l.set k ⟨c, (vecV l c).toNat⟩, 0)
theorem stepD_take (hk : k < l.length) (h : (l.getD k zs).vec = 0) : stepV cores l ⟨1, (k : Int), M⟩ = putD l k (pick (cntV l) (okD M (-1)) cores) := by
  have e : errV l ⟨1, (k : Int), M⟩ = 0 := by
    show (if ¬ (1 ≤ (1 : Int) ∧ (1 : Int) ≤ 3) then (5 : Int) else if ¬ (0 ≤ (k : Int) ∧ (k : Int) < l.length) then 2 else if (1 : Int) = 1 ∧ 0 < (l.getD k zs).vec then 6 else if ¬ (1 : Int) = 1 ∧ ¬ 0 < (l.getD k zs).vec then 3 else 0) = 0
    rw [if_neg (by decide), if_neg (by omega), if_neg (by omega), if_neg (by omega)]
  have eo : okV l ⟨1, (k : Int), M⟩ = okD M (-1) := by
    funext c
    have : ¬ (c : Int) = -1 := by omega
    simp [okV, okD, this]
  have e2 : ¬ (⟨1, (k : Int), M⟩ : VopT).kind = 2 := by show ¬ (1 : Int) = 2; decide
  unfold stepV
  rw [e, if_neg (by decide), if_neg e2, eo]
  cases pick (cntV l) (okD M (-1)) cores <;> rfl
theorem stepD_move (hk : k < l.length) (h : 0 < (l.getD k zs).vec) : stepV cores l ⟨3, (k : Int), M⟩ = putD l k (pick (cntV l) (okD M ((l.getD k zs).core : Int)) cores) := by
  have e : errV l ⟨3, (k : Int), M⟩ = 0 := by
    show (if ¬ (1 ≤ (3 : Int) ∧ (3 : Int) ≤ 3) then (5 : Int) else if ¬ (0 ≤ (k : Int) ∧ (k : Int) < l.length) then 2 else if (3 : Int) = 1 ∧ 0 < (l.getD k zs).vec then 6 else if ¬ (3 : Int) = 1 ∧ ¬ 0 < (l.getD k zs).vec then 3 else 0) = 0
    rw [if_neg (by decide), if_neg (by omega), if_neg (by omega), if_neg (by omega)]
  have eo : okV l ⟨3, (k : Int), M⟩ = okD M ((l.getD k zs).core : Int) := by
    funext c
    show (allow M c && !(decide ((3 : Int) = 3) && decide (c = (l.getD k zs).core))) = (allow M c && !decide ((c : Int) = ((l.getD k zs).core : Int)))
    rw [decide_eq_true (rfl : (3 : Int) = 3), Bool.true_and]
    congr 2
    exact decide_eq_decide.2 Int.ofNat_inj.symm
  have e2 : ¬ (⟨3, (k : Int), M⟩ : VopT).kind = 2 := by show ¬ (3 : Int) = 2; decide
  unfold stepV
  rw [e, if_neg (by decide), if_neg e2, eo]
  cases pick (cntV l) (okD M ((l.getD k zs).core : Int)) cores <;> rfl
end
theorem own_errs {w : World} {base k : Nat} {e : TypeId} {v : Value} {l : List Int} (h : w.ownsRow base e 1 v k (shE.flat l)) (hk : l.length = k) : ∃ ad cap, v = .slice ad k cap ∧ shE.At w ad cap l := by
  subst hk
  exact Shape.At.of_row (S := shE) h
/-- A row of the call's own stays while no block from its base on turns. -/
theorem own_keep {w w' : World} {base e : Nat} {size n : Nat} {v : Value} {xs : List Value} (h : w.ownsRow base e size v n xs) (hk : ∀ g o, base ≤ g → w.heap[g]? = some o → w'.heap[g]? = some o) : w'.ownsRow base e size v n xs := by
  obtain ⟨h1, h2⟩ := h
  refine ⟨h1, ?_⟩
  rcases h2 with h2 | ⟨g, cap, cur, hv, hg, hh, r⟩
  · exact Or.inl h2
  · exact Or.inr ⟨g, cap, cur, hv, hg, hk g _ hg hh, r⟩
theorem own_below {w w' : World} {base e : Nat} {size n : Nat} {v : Value} {xs : List Value} (h : w.ownsRow base e size v n xs) (hb : Below w.heap.size w w') : w'.ownsRow base e size v n xs :=
  own_keep h fun g o _ hg => by rw [hb.block g (Array.getElem?_eq_some_iff.1 hg).1]; exact hg
theorem own_set {w : World} {base e : Nat} {size n B i : Nat} {v u : Value} {xs : List Value} (h : w.ownsRow base e size v n xs) (hb : B < base) : (w.setCell ⟨B, i, none⟩ u).ownsRow base e size v n xs :=
  own_keep h fun g o hg ho => by rw [heap_setCell_other _ _ _ _ (show g ≠ (⟨B, i, none⟩ : Addr).block from by show g ≠ B; omega)]; exact ho
set_option maxHeartbeats 2000000 in
set_option maxRecDepth 100000 in
theorem dplay_ok {ad : Option Addr} {cap m : Nat} {ops : List VopT} (w : World) (cores n : Nat) (h1 : 1 ≤ cores) (h8 : cores ≤ 8) (hn : n ≤ 2000) (HA : Hid (shO.At w ad cap ops)) (hm : Hid (ops.length = m)) (hm2 : m ≤ 5864062014805) (l : List SlotT) (es : List Int) (hr : Hid (runV cores n ops = (l, es))) :
    Calls Tryd.prog 6 #[.int .i64 cores, .int .i64 n, .slice ad m cap] w fun e w' => ∃ ea ec sa sc, e = .returned (.tuple #[.slice ea m ec, .slice sa n sc, .int .i64 0]) ∧ shE.At w' ea ec es ∧ shS.At w' sa sc l ∧ Below w.heap.size w w' := by
  obtain ⟨i0, hi, hz0, hz1, hz2⟩ := info_parts info_slot
  obtain ⟨j0, ji, jz0, jz1, jz2⟩ := info_parts info_errD
  have hd1 : decide ((n : Int) < 0) = false := decide_eq_false (by omega)
  go_enter Tryd.func6, Tryd.ntmps6
  go_wp2_with (first
    | (at_make; refine wpList_make_full _ rfl _ _ 24 rfl (w.heap.size + 1) 31 i0 _ 2 Tryd.underlying24 hi hz0 hz1 .i64 .i64 _ _ n rfl rfl rfl rfl ?c1 ?c2 ?c3 ?_)
    | fail)
  case c1 => rw [hz2]; omega
  case c2 => unfold maxLen; omega
  case c3 => simp
  intro w1 hown hgrow
  have hw : (w.alloc (.cells #[.int .i64 (cores : Int)] 3)).heap.size = w.heap.size + 1 := by simp
  have S1 : SlotRow w1 (w.heap.size + 1) (List.replicate n zs) := slots_made hown
  have B1 : Below w.heap.size w w1 := (below_alloc w _).grown hgrow (by simp) (fun k hk => by cases hk)
  have X1 : w1.heap[w.heap.size]? = some (.cells #[.int .i64 (cores : Int)] 3 (0, 0)) := (hgrow.block _ (by simp) (by simp)).trans (heap_alloc_new w _)
  have hlt1 := S1.lt
  clear hown hgrow hw
  go_wp2_with fail
  have R0 : DRow w w.heap.size (w.heap.size + 1) w1.heap.size cores (List.replicate n zs) (w1.alloc (.cells #[.slice (some ⟨w.heap.size + 1, 0, none⟩) n n] 24)) := by
    refine ⟨B1.alloc B1.size _, ⟨Nat.le_refl _, by omega, by omega⟩, (Below.heap_alloc _ _ _ (by omega)).trans X1, ?_, S1.same (Below.heap_alloc _ _ _ (by omega))⟩
    rw [List.length_replicate]
    exact heap_alloc_new w1 _
  have hb2 : w.heap.size + 1 < w1.heap.size := hlt1
  clear S1 X1 B1 hlt1
  go_loopw [11, 37] (fun v i wr => ∃ k : Nat, k ≤ m ∧ i = .int .i64 k ∧ DRow w w.heap.size (w.heap.size + 1) w1.heap.size cores (runV cores n (ops.take k)).1 wr ∧ wr.ownsRow (w1.heap.size + 1) 25 1 v k (shE.flat (runV cores n (ops.take k)).2)) (fun _ i _ => m - (intOf i).toNat)
  case atStart => exact ⟨0, Nat.zero_le _, rfl, R0, World.ownsRow_nil _ _ _ _⟩
  case round =>
    clear R0
    obtain ⟨k, hk, rfl, DR, own⟩ := hrel
    obtain ⟨⟨l0, es0⟩, hst⟩ : ∃ st, runV cores n (ops.take k) = st := ⟨_, rfl⟩
    have hlen := run_good cores n (ops.take k)
    rw [hst] at DR own hlen
    simp only at DR own hlen
    obtain ⟨hgd, hl1, hl2⟩ := hlen
    have hl3 : es0.length = k := by rw [hl2, List.length_take, hm.out]; omega
    by_cases hkl : k < m
    · obtain ⟨o, ho⟩ : ∃ o, ops[k]? = some o := ⟨ops[k]'(by rw [hm.out]; exact hkl), List.getElem?_eq_getElem _⟩
      obtain ⟨K, L, M⟩ := o
      obtain ⟨b, off, rfl, hb, e0, e1, e2⟩ := at_op HA.out ho
      have g0 := (DR.1.cell (p := ⟨b, off + k * 3, none⟩) hb).trans e0
      have g1 := (DR.1.cell (p := ⟨b, off + k * 3 + 1, none⟩) hb).trans e1
      have g2 := (DR.1.cell (p := ⟨b, off + k * 3 + 2, none⟩) hb).trans e2
      simp only at g0 g1 g2
      have hbr : b < wr.heap.size := Nat.lt_of_lt_of_le hb DR.1.size
      obtain ⟨⟨l2, x2⟩, hs2⟩ : ∃ r, stepV cores l0 ⟨K, L, M⟩ = r := ⟨_, rfl⟩
      have HN : Hid (runV cores n (ops.take (k + 1)) = (l2, es0 ++ [x2])) := by
        rw [runV_takeD ho, hst]
        unfold nextV
        rw [hs2]
        exact Lib.hid rfl
      have hOB := DR.lt
      have HS := Lib.hid hs2
      have HG := Lib.hid hgd
      have HL1 := Lib.hid hl1
      have HL3 := Lib.hid hl3
      have OW := Lib.hid (own_below own (below_alloc wr (.cells #[.int .i64 K, .int .i64 L, .int .i64 M] 38)))
      have own0 := Lib.hid own
      have D0 := Lib.hid DR
      have D1 := Lib.hid (DR.step (below_alloc wr (.cells #[.int .i64 K, .int .i64 L, .int .i64 M] 38)))
      clear hs2 hst ho hl3 hl2 hl1 hgd e0 e1 e2 DR own
      go_upto_block 2 with (fail)
      go_cut [14, 15, 16, 17] from 41 to 122 (fun e _ _ _ wx => e = .int .i64 x2 ∧ DRow w w.heap.size (w.heap.size + 1) w1.heap.size cores l2 wx ∧ wx.ownsRow (w1.heap.size + 1) 25 1 u11 k (shE.flat es0))
      case first =>
        have hBw : w.heap.size + 1 < wr.heap.size := by omega
        by_cases hK : 1 ≤ K ∧ K ≤ 3
        · by_cases hL : 0 ≤ L ∧ L < n
          · obtain ⟨j, rfl⟩ : ∃ j : Nat, L = j := ⟨L.toNat, by omega⟩
            have hj : j < l0.length := by rw [HL1.out]; omega
            have hjn : j < n := by omega
            obtain ⟨s, hs⟩ : ∃ s, l0.getD j zs = s := ⟨_, rfl⟩
            have hsl := D0.out.slot hj
            have hf0 := D0.out.frozen (j * 2)
            have hf1 := D0.out.frozen (j * 2 + 1)
            have cO := D0.out.of
            rw [HL1.out] at cO
            rw [hs] at hsl
            obtain ⟨c0, v0⟩ := s
            simp only at hsl
            obtain ⟨s0, s1⟩ := hsl
            have HSL := Lib.hid hs
            clear hs hL
            by_cases hv : 0 < v0
            · have hvv : 0 < (l0.getD j zs).vec := by rw [HSL.out]; exact hv
              obtain rfl | rfl | rfl : K = 1 ∨ K = 2 ∨ K = 3 := by omega
              · have hs2 := HS.out
                rw [stepD_held hj hvv] at hs2
                simp only [Prod.mk.injEq] at hs2
                obtain ⟨rfl, rfl⟩ := hs2
                clear HS
                go_wp2_with fail
                go_meet
                exact ⟨rfl, D1.out, OW.out⟩
              · have hs2 := HS.out
                rw [stepD_give hj hvv] at hs2
                simp only [Prod.mk.injEq] at hs2
                obtain ⟨rfl, rfl⟩ := hs2
                clear HS
                have DZ := Lib.hid ((D0.out.put hj zs).step (below_alloc _ (.cells #[.int .i64 2, .int .i64 (j : Int), .int .i64 M] 38)))
                have OZ := Lib.hid (own_below (own_set (own_set (B := w.heap.size + 1) (i := j * 2) (u := .int .i64 ((zs.core : Nat) : Int)) own0.out (by omega)) (B := w.heap.size + 1) (i := j * 2 + 1) (u := .int .i64 ((zs.vec : Nat) : Int)) (by omega)) (below_alloc _ (.cells #[.int .i64 2, .int .i64 (j : Int), .int .i64 M] 38)))
                go_wp2_with fail
                go_meet
                exact ⟨rfl, DZ.out, OZ.out⟩
              · have hcc : (l0.getD j zs).core = c0 := by rw [HSL.out]
                have hs2 := HS.out
                rw [stepD_move hj hvv, hcc] at hs2
                obtain ⟨p, hp⟩ : ∃ p, pick (cntV l0) (okD M (c0 : Int)) cores = p := ⟨_, rfl⟩
                rw [hp] at hs2
                have HP := Lib.hid hp
                have hpp := hp
                have D1n := D1.out.nc
                have D1f := D1.out.of
                rw [HL1.out] at D1f
                have HSA : Hid (shS.At (wr.alloc (.cells #[.int .i64 3, .int .i64 (j : Int), .int .i64 M] 38)) (some ⟨w.heap.size + 1, 0, none⟩) n l0) := Lib.hid (row_at D1.out.2.2.2.2 n)
                have z1 : w.heap.size < (wr.alloc (.cells #[.int .i64 3, .int .i64 (j : Int), .int .i64 M] 38)).heap.size := by simp; omega
                have z2 : w1.heap.size < (wr.alloc (.cells #[.int .i64 3, .int .i64 (j : Int), .int .i64 M] 38)).heap.size := by simp; omega
                have HN1 := Lib.hid D1n
                have HN2 := Lib.hid D1f
                have z3 : wr.heap.size < (wr.alloc (.cells #[.int .i64 3, .int .i64 (j : Int), .int .i64 M] 38)).heap.size := by simp
                have K1 : Hid ((wr.alloc (.cells #[.int .i64 3, .int .i64 (j : Int), .int .i64 M] 38)).cell? ⟨wr.heap.size, 1, none⟩ = some (.int .i64 (j : Int))) := Lib.hid (by simp)
                clear HS hp D1n D1f
                cases p with
                | none =>
                  obtain ⟨rfl, rfl⟩ : l0 = l2 ∧ (4 : Int) = x2 := by simpa [putD] using hs2
                  clear hs2 hpp
                  go_wp2_with (first
                    | (go_at_call 12; (with_reducible refine (find_V _ cores n M (c0 : Int) h8 hn HL1 HG HSA HN1.out HN2.out z1 z2 none HP).mono ?_); rintro e w3 ⟨rfl, hb3⟩; have D3 := Lib.hid (D1.out.step hb3); have O3 := Lib.hid (own_below OW.out hb3); rw [findV]; clear hb3)
                    | fail)
                  go_meet
                  exact ⟨rfl, D3.out.step (below_alloc _ _), own_below O3.out (below_alloc _ _)⟩
                | some c =>
                  obtain ⟨rfl, rfl⟩ : l0.set j ⟨c, (vecV l0 c).toNat⟩ = l2 ∧ (0 : Int) = x2 := by simpa [putD] using hs2
                  obtain ⟨v, hv', _⟩ := vec_ok (pick_some hpp).2.2.1
                  have HVV := Lib.hid hv'
                  clear hs2 hpp hv'
                  go_wp2_with (first
                    | (go_at_call 12; (with_reducible refine (find_V _ cores n M (c0 : Int) h8 hn HL1 HG HSA HN1.out HN2.out z1 z2 (some c) HP).mono ?_); rintro e w3 ⟨rfl, hb3⟩; have D3 := Lib.hid (D1.out.step hb3); have O3 := Lib.hid (own_below OW.out hb3); have k1 : w3.cell? ⟨wr.heap.size, 1, none⟩ = some (.int .i64 (j : Int)) := (hb3.cell (p := ⟨wr.heap.size, 1, none⟩) z3).trans K1.out; have k2 := D3.out.of; have k3 := D3.out.frozen (j * 2); have k4 := D3.out.frozen (j * 2 + 1); have k5 := (D3.out.slot hj).1; have k6 := (D3.out.slot hj).2; have k7 := D3.out.lt; rw [HL1.out] at k2; rw [findV, HVV.out]; have k8 : wr.heap.size < w3.heap.size := Nat.lt_of_lt_of_le z3 hb3.size; have k9 : w.heap.size + 1 < w3.heap.size := (by omega); clear hb3)
                    | fail)
                  go_meet
                  have DZ := (D3.out.put hj ⟨c, v⟩).step (below_alloc _ (.cells #[.int .i64 (c : Int), .int .i64 (v : Int)] 31))
                  have e9 : (vecV l0 c).toNat = v := by rw [HVV.out]; exact Int.toNat_natCast v
                  rw [e9]
                  exact ⟨rfl, DZ, own_below (own_set (own_set O3.out (by omega)) (by omega)) (below_alloc _ _)⟩
            · obtain rfl : v0 = 0 := by omega
              have hvv : (l0.getD j zs).vec = 0 := by rw [HSL.out]
              clear hv
              obtain rfl | rfl | rfl : K = 1 ∨ K = 2 ∨ K = 3 := by omega
              · have hs2 := HS.out
                rw [stepD_take hj hvv] at hs2
                obtain ⟨p, hp⟩ : ∃ p, pick (cntV l0) (okD M (-1)) cores = p := ⟨_, rfl⟩
                rw [hp] at hs2
                have HP := Lib.hid hp
                have hpp := hp
                have D1n := D1.out.nc
                have D1f := D1.out.of
                rw [HL1.out] at D1f
                have HSA : Hid (shS.At (wr.alloc (.cells #[.int .i64 1, .int .i64 (j : Int), .int .i64 M] 38)) (some ⟨w.heap.size + 1, 0, none⟩) n l0) := Lib.hid (row_at D1.out.2.2.2.2 n)
                have z1 : w.heap.size < (wr.alloc (.cells #[.int .i64 1, .int .i64 (j : Int), .int .i64 M] 38)).heap.size := by simp; omega
                have z2 : w1.heap.size < (wr.alloc (.cells #[.int .i64 1, .int .i64 (j : Int), .int .i64 M] 38)).heap.size := by simp; omega
                have HN1 := Lib.hid D1n
                have HN2 := Lib.hid D1f
                have z3 : wr.heap.size < (wr.alloc (.cells #[.int .i64 1, .int .i64 (j : Int), .int .i64 M] 38)).heap.size := by simp
                have K1 : Hid ((wr.alloc (.cells #[.int .i64 1, .int .i64 (j : Int), .int .i64 M] 38)).cell? ⟨wr.heap.size, 1, none⟩ = some (.int .i64 (j : Int))) := Lib.hid (by simp)
                clear HS hp D1n D1f
                cases p with
                | none =>
                  obtain ⟨rfl, rfl⟩ : l0 = l2 ∧ (4 : Int) = x2 := by simpa [putD] using hs2
                  clear hs2 hpp
                  go_wp2_with (first
                    | (go_at_call 12; (with_reducible refine (find_V _ cores n M (-1) h8 hn HL1 HG HSA HN1.out HN2.out z1 z2 none HP).mono ?_); rintro e w3 ⟨rfl, hb3⟩; have D3 := Lib.hid (D1.out.step hb3); have O3 := Lib.hid (own_below OW.out hb3); rw [findV]; clear hb3)
                    | fail)
                  go_meet
                  exact ⟨rfl, D3.out.step (below_alloc _ _), own_below O3.out (below_alloc _ _)⟩
                | some c =>
                  obtain ⟨rfl, rfl⟩ : l0.set j ⟨c, (vecV l0 c).toNat⟩ = l2 ∧ (0 : Int) = x2 := by simpa [putD] using hs2
                  obtain ⟨v, hv', _⟩ := vec_ok (pick_some hpp).2.2.1
                  have HVV := Lib.hid hv'
                  clear hs2 hpp hv'
                  go_wp2_with (first
                    | (go_at_call 12; (with_reducible refine (find_V _ cores n M (-1) h8 hn HL1 HG HSA HN1.out HN2.out z1 z2 (some c) HP).mono ?_); rintro e w3 ⟨rfl, hb3⟩; have D3 := Lib.hid (D1.out.step hb3); have O3 := Lib.hid (own_below OW.out hb3); have k1 : w3.cell? ⟨wr.heap.size, 1, none⟩ = some (.int .i64 (j : Int)) := (hb3.cell (p := ⟨wr.heap.size, 1, none⟩) z3).trans K1.out; have k2 := D3.out.of; have k3 := D3.out.frozen (j * 2); have k4 := D3.out.frozen (j * 2 + 1); have k5 := (D3.out.slot hj).1; have k6 := (D3.out.slot hj).2; have k7 := D3.out.lt; rw [HL1.out] at k2; rw [findV, HVV.out]; have k8 : wr.heap.size < w3.heap.size := Nat.lt_of_lt_of_le z3 hb3.size; have k9 : w.heap.size + 1 < w3.heap.size := (by omega); clear hb3)
                    | fail)
                  go_meet
                  have DZ := (D3.out.put hj ⟨c, v⟩).step (below_alloc _ (.cells #[.int .i64 (c : Int), .int .i64 (v : Int)] 31))
                  have e9 : (vecV l0 c).toNat = v := by rw [HVV.out]; exact Int.toNat_natCast v
                  rw [e9]
                  exact ⟨rfl, DZ, own_below (own_set (own_set O3.out (by omega)) (by omega)) (below_alloc _ _)⟩
              · have hs2 := HS.out
                rw [stepD_none (by decide) (by decide) hj hvv] at hs2
                simp only [Prod.mk.injEq] at hs2
                obtain ⟨rfl, rfl⟩ := hs2
                clear HS
                go_wp2_with fail
                go_meet
                exact ⟨rfl, D1.out, OW.out⟩
              · have hs2 := HS.out
                rw [stepD_none (by decide) (by decide) hj hvv] at hs2
                simp only [Prod.mk.injEq] at hs2
                obtain ⟨rfl, rfl⟩ := hs2
                clear HS
                go_wp2_with fail
                go_meet
                exact ⟨rfl, D1.out, OW.out⟩
          · have hLL : ¬ (0 ≤ L ∧ L < l0.length) := by rw [HL1.out]; exact hL
            have hs2 := HS.out
            rw [stepD_range hK hLL] at hs2
            simp only [Prod.mk.injEq] at hs2
            obtain ⟨rfl, rfl⟩ := hs2
            clear HS hLL
            by_cases hL0 : L < 0
            · clear hL
              obtain rfl | rfl | rfl : K = 1 ∨ K = 2 ∨ K = 3 := by omega
              all_goals
                clear hK
                go_wp2_with fail
                go_meet
                exact ⟨rfl, D1.out, OW.out⟩
            · have hL1 : (n : Int) ≤ L := by omega
              clear hL
              obtain rfl | rfl | rfl : K = 1 ∨ K = 2 ∨ K = 3 := by omega
              all_goals
                clear hK
                go_wp2_with fail
                go_meet
                exact ⟨rfl, D1.out, OW.out⟩
        · have hs2 := HS.out
          rw [stepD_kind hK] at hs2
          simp only [Prod.mk.injEq] at hs2
          obtain ⟨rfl, rfl⟩ := hs2
          have q1 : ¬ K = 1 := by omega
          have q2 : ¬ K = 2 := by omega
          have q3 : ¬ K = 3 := by omega
          have n1 : (K != 1) = true := by simp [q1]
          have n2 : (K != 2) = true := by simp [q2]
          have n3 : (K != 3) = true := by simp [q3]
          clear HS hK
          go_wp2_with fail
          go_meet
          exact ⟨rfl, D1.out, OW.out⟩
      case rest =>
        obtain ⟨rfl, DX, own⟩ := hcut
        have hlx := DX.lt
        have OWN := Lib.hid (own_below own (below_alloc wc (.cells #[.int .i64 x2] 25)))
        have OWX := Lib.hid own
        have DXX := Lib.hid (DX.step (below_alloc wc (.cells #[.int .i64 x2] 25)))
        clear own DX OW D0 D1 HS
        go_wp2_with (first
          | (at_builtin; refine wpList_append_at shE rfl _ _ 23 rfl (w1.heap.size + 1) 25 j0 _ 8 Tryd.underlying23 ji jz0 jz1 jz2 rfl _ es0 [x2] rfl ?own (some ⟨_, 0, none⟩) 1 1 rfl (Lib.hid rfl) (Shape.At.lit (S := shE) [x2] (heap_alloc_new _ _)) ?h63 ?hby ?hba ?_)
          | fail)
        case own => rw [HL3.out]; exact OWN.out
        case h63 => rw [HL3.out]; unfold maxLen; omega
        case hby => rw [HL3.out]; omega
        case hba => simp; omega
        rw [HL3.out]
        intro ra rc w3 own3 grow3 _
        have DN : Hid (DRow w w.heap.size (w.heap.size + 1) w1.heap.size cores l2 w3) := Lib.hid (DXX.out.own ((Below.refl _ _).grown grow3 (by simp; omega) (fun g hg => (OWX.out.lt g hg).1)) ((Below.refl _ _).grown grow3 (by simp; omega) (fun g hg => by have := (OWX.out.lt g hg).1; omega)))
        have O3 := Lib.hid own3
        clear own3 grow3
        go_wp2_with fail
        go_roundw
        case rel => exact ⟨k + 1, by omega, by go_num, by rw [HN.out]; exact DN.out, by rw [HN.out]; exact O3.out⟩
        case measure => simp [intOf]; omega
    · obtain rfl : k = m := by omega
      have hre : (l0, es0) = (l, es) := by rw [← hst, List.take_of_length_le (by rw [hm.out]; exact Nat.le_refl _)]; exact hr.out
      simp only [Prod.mk.injEq] at hre
      obtain ⟨rfl, rfl⟩ := hre
      obtain ⟨ea, ec, rfl, hE⟩ := own_errs own hl3
      have HE := Lib.hid hE
      have HB : Hid (shS.At wr (some ⟨w.heap.size + 1, 0, none⟩) n l0) := Lib.hid (row_at DR.2.2.2.2 n)
      have cO := DR.of
      have BB := Lib.hid DR.1
      rw [hl1] at cO
      clear hE own DR hst hgd
      go_wp2_with fail
      go_quiet (fail)
      go_wp2_with fail
      refine bodyPost_ret (results_tmp3 rfl _ _ _) rfl ?_
      exact ⟨ea, ec, some ⟨w.heap.size + 1, 0, none⟩, n, rfl, HE.out.step (below_drewN (Below.refl _ _) _), HB.out.step (below_drewN (Below.refl _ _) _), below_drewN BB.out _⟩
end Go.Proofs.YtajecpfkaieieaaDoor
