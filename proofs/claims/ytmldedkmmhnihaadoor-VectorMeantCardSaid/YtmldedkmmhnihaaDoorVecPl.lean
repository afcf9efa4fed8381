/- The walk of vector.Play: it answers what the plain run says. -/
import Derived.Test.YtmldedkmmhnihaaDoorVecY
import Derived.Test.YtmldedkmmhnihaaDoorVecAA
namespace Go.Proofs.YtmldedkmmhnihaaDoor
open Go.RowKit

theorem info_errno : (Tryd.prog.info? 28).map (fun i => (i.zero, i.size, i.bytes)) = some (some (.int .i64 0), 1, 8) := by kernel_rfl
/-- How error codes, slots and operations lie in cells. -/
def shE : Shape Int := ⟨1, fun x => [.int .i64 x], fun _ => rfl, fun _ u hu => by simp at hu; subst hu; rfl, by decide⟩
def shS : Shape SlotT := ⟨2, fun s => [.int .i64 (s.core : Int), .int .i64 (s.vec : Int)], fun _ => rfl, fun _ u hu => by simp at hu; rcases hu with rfl | rfl <;> rfl, by decide⟩
def shO : Shape VopT := ⟨3, fun o => [.int .i64 o.kind, .int .i64 o.line, .int .i64 o.mask], fun _ => rfl, fun _ u hu => by simp at hu; rcases hu with rfl | rfl | rfl <;> rfl, by decide⟩
theorem at_op {w : World} {ad : Option Addr} {cap k : Nat} {l : List VopT} {o : VopT} (h : shO.At w ad cap l) (hk : l[k]? = some o) : ∃ b off, ad = some ⟨b, off, none⟩ ∧ b < w.heap.size ∧ w.cell? ⟨b, off + k * 3, none⟩ = some (.int .i64 o.kind) ∧ w.cell? ⟨b, off + k * 3 + 1, none⟩ = some (.int .i64 o.line) ∧ w.cell? ⟨b, off + k * 3 + 2, none⟩ = some (.int .i64 o.mask) := by
  have hkl := (List.getElem?_eq_some_iff.1 hk).1
  obtain ⟨b, off, e, hb, hl⟩ := h.2 (by omega)
  have h0 := shO.flat_at l k 0 o hk (by decide)
  have h1 := shO.flat_at l k 1 o hk (by decide)
  have h2 := shO.flat_at l k 2 o hk (by decide)
  have hs : shO.size = 3 := rfl
  rw [hs] at h0 h1 h2 hl
  refine ⟨b, off, e, hb, ?_, ?_, ?_⟩
  · rw [show off + k * 3 = off + (k * 3 + 0) from rfl, hl _ (by omega), h0]; rfl
  · rw [Nat.add_assoc, hl _ (by omega), h1]; rfl
  · rw [Nat.add_assoc, hl _ (by omega), h2]; rfl
theorem row_at {w : World} {B : Nat} {l : List SlotT} (r : SlotRow w B l) (cap : Nat) : shS.At w (some ⟨B, 0, none⟩) cap l := by
  refine ⟨fun e => (by cases e), fun _ => ⟨B, 0, rfl, r.lt, fun k hk => ?_⟩⟩
  obtain ⟨cur, hc, hi⟩ := r
  have hk' : k < l.length * 2 := hk
  have hj : l[k / 2]? = some (l.getD (k / 2) zs) := getD_of (by omega)
  have hf := shS.flat_at l (k / 2) (k % 2) _ hj (Nat.mod_lt _ (by decide))
  have hs : shS.size = 2 := rfl
  rw [hs, show k / 2 * 2 + k % 2 = k by omega] at hf
  obtain ⟨g0, g1⟩ := hi (k / 2) (by omega)
  rw [Nat.zero_add, cell_of_row w B k _ _ _ hc, hf]
  have h2 : k % 2 = 0 ∨ k % 2 = 1 := by omega
  rcases h2 with e | e
  · rw [e, show k = k / 2 * 2 by omega]
    rw [show k / 2 * 2 / 2 = k / 2 by omega]
    exact g0
  · rw [e]
    have e2 : k = k / 2 * 2 + 1 := by omega
    rw [show (cur[k]? : Option Value) = cur[k / 2 * 2 + 1]? from congrArg (fun x => cur[x]?) e2]
    exact g1
/-- The error codes so far, in a block of the call's own. -/
def ErrRow (w : World) (E n : Nat) (l : List Int) : Prop := ∃ cur, w.heap[E]? = some (.cells cur 28 (0, 0)) ∧ cur.size = n ∧ ∀ (j : Nat) (x : Int), l[j]? = some x → cur[j]? = some (.int .i64 x)
theorem err_at {w : World} {E n : Nat} {l : List Int} (r : ErrRow w E n l) (cap : Nat) : shE.At w (some ⟨E, 0, none⟩) cap l := by
  obtain ⟨cur, hc, _, hi⟩ := r
  refine ⟨fun e => (by cases e), fun _ => ⟨E, 0, rfl, (Array.getElem?_eq_some_iff.1 hc).1, fun k hk => ?_⟩⟩
  have hk' : k < l.length := by have : shE.size = 1 := rfl; rw [this] at hk; omega
  have hj : l[k]? = some l[k] := List.getElem?_eq_getElem hk'
  have hf := shE.flat_at l k 0 _ hj (by decide)
  have hs : shE.size = 1 := rfl
  rw [hs, Nat.mul_one, Nat.add_zero] at hf
  rw [Nat.zero_add, cell_of_row w E k _ _ _ hc, hf, hi k _ hj]
  rfl
/-- The table beside the error codes. -/
def PlayV (w0 : World) (T B E cores n : Nat) (st : List SlotT × List Int) (w : World) : Prop := ∃ ob, VS ⟨w0, E, some ob⟩ T B cores st.1 w ∧ w0.heap.size ≤ E ∧ ∃ cur, ob = .cells cur 28 (0, 0) ∧ cur.size = n ∧ ∀ (j : Nat) (x : Int), st.2[j]? = some x → cur[j]? = some (.int .i64 x)
theorem VS.rebase {W : Base} {T B cores : Nat} {l : List SlotT} {w w' : World} (r : VS W T B cores l w) (E : Nat) (ob : Obj) (hb : Below W.w.heap.size W.w w') (hT : w'.heap[T]? = w.heap[T]?) (hB : w'.heap[B]? = w.heap[B]?) (h1 : ¬ E = T) (h2 : ¬ E = B) (ho : w'.heap[E]? = some ob) : VS ⟨W.w, E, some ob⟩ T B cores l w' := by
  obtain ⟨g, fr, tk, ⟨_, r2, r3, r4, _⟩, t⟩ := r
  exact ⟨g, fr, tk, ⟨hb, r2, r3.same hB, r4.same hT, h1, h2, fun o e => by cases e; exact ho⟩, t⟩
theorem VS.kept {w0 : World} {E : Nat} {ob : Obj} {T B cores : Nat} {l : List SlotT} {w : World} (r : VS ⟨w0, E, some ob⟩ T B cores l w) : w.heap[E]? = some ob ∧ ¬ E = T ∧ ¬ E = B := by
  obtain ⟨g, fr, tk, ⟨_, r2, r3, r4, k1, k2, k3⟩, t⟩ := r
  exact ⟨k3 ob rfl, k1, k2⟩
/-- An error code is written. -/
theorem VS.store {w0 : World} {T B E cores n k : Nat} {l : List SlotT} {es : List Int} {cur : Array Value} {w : World} (r : VS ⟨w0, E, some (.cells cur 28 (0, 0))⟩ T B cores l w) (hE : w0.heap.size ≤ E) (hs : cur.size = n) (hk : es.length = k) (hkn : k < n) (hi : ∀ (j : Nat) (x : Int), es[j]? = some x → cur[j]? = some (.int .i64 x)) (e : Int) :
    PlayV w0 T B E cores n (l, es ++ [e]) (w.setCell ⟨E, k, none⟩ (.int .i64 e)) := by
  obtain ⟨hk0, n1, n2⟩ := r.kept
  have g1 := heap_setCell_same w E k cur _ (.int .i64 e) hk0
  refine ⟨_, r.rebase E _ (r.below.setCell (p := ⟨E, k, none⟩) hE _) (heap_setCell_other _ _ _ _ (show T ≠ (⟨E, k, none⟩ : Addr).block from fun h => n1 h.symm)) (heap_setCell_other _ _ _ _ (show B ≠ (⟨E, k, none⟩ : Addr).block from fun h => n2 h.symm)) n1 n2 g1, hE, _, rfl, by simpa using hs, fun j x hj => ?_⟩
  rw [List.getElem?_append] at hj
  split at hj
  · rename_i hlt
    rw [Array.getElem?_setIfInBounds_ne (by omega)]
    exact hi j x hj
  · have e0 : j = k := by
      by_cases h : j = k
      · exact h
      · rw [List.getElem?_singleton, if_neg (by omega)] at hj
        cases hj
    subst e0
    rw [hk, Nat.sub_self] at hj
    simp at hj
    subst hj
    simp [Array.getElem?_setIfInBounds]
    omega
theorem take_snoc {α : Type} {l : List α} {k : Nat} {a : α} (h : l[k]? = some a) : l.take (k + 1) = l.take k ++ [a] := by
  rw [List.take_add_one, h]
  rfl
/-- The table and the codes behind the first k operations. -/
theorem runV_take {cores lines : Nat} {ops : List VopT} {k : Nat} {o : VopT} (h : ops[k]? = some o) : runV cores lines (ops.take (k + 1)) = nextV cores (runV cores lines (ops.take k)) o := by rw [take_snoc h, runV_snoc]
set_option maxHeartbeats 1000000 in
set_option maxRecDepth 100000 in
theorem play_bad (c n : Int) (v : Value) (w : World) (h : c < 1 ∨ 8 < c ∨ n < 0 ∨ 2000 < n) :
    Calls Tryd.prog 6 #[.int .i64 c, .int .i64 n, v] w fun e w' => e = .returned (.tuple #[.slice none 0 0, .slice none 0 0, .int .i64 2]) ∧ Below w.heap.size w w' := by
  by_cases h1 : c < 1
  · go_enter Tryd.func6, Tryd.ntmps6
    go_wp2_with fail
    refine bodyPost_ret (results_tmp3 rfl _ _ _) rfl ?_
    exact ⟨rfl, Below.refl _ _⟩
  by_cases h2 : 8 < c
  · go_enter Tryd.func6, Tryd.ntmps6
    go_wp2_with fail
    refine bodyPost_ret (results_tmp3 rfl _ _ _) rfl ?_
    exact ⟨rfl, Below.refl _ _⟩
  by_cases h3 : n < 0
  · go_enter Tryd.func6, Tryd.ntmps6
    go_wp2_with fail
    refine bodyPost_ret (results_tmp3 rfl _ _ _) rfl ?_
    exact ⟨rfl, Below.refl _ _⟩
  · have h4 : 2000 < n := by omega
    go_enter Tryd.func6, Tryd.ntmps6
    go_wp2_with fail
    refine bodyPost_ret (results_tmp3 rfl _ _ _) rfl ?_
    exact ⟨rfl, Below.refl _ _⟩
set_option maxHeartbeats 1000000 in
set_option maxRecDepth 100000 in
theorem play_ok {ad : Option Addr} {cap m : Nat} {ops : List VopT} (w : World) (hT : Hid (Tab w)) (cores n : Nat) (h1 : 1 ≤ cores) (h8 : cores ≤ 8) (hn : n ≤ 2000) (HA : Hid (shO.At w ad cap ops)) (hm : Hid (ops.length = m)) (hm2 : m ≤ 5864062014805) (l : List SlotT) (es : List Int) (hr : Hid (runV cores n ops = (l, es))) :
    Calls Tryd.prog 6 #[.int .i64 cores, .int .i64 n, .slice ad m cap] w fun e w' => ∃ ea ec sa sc, e = .returned (.tuple #[.slice ea m ec, .slice sa n sc, .int .i64 0]) ∧ shE.At w' ea ec es ∧ shS.At w' sa sc l ∧ Below w.heap.size w w' := by
  obtain ⟨i0, hi, hz0, hz1, hz2⟩ := info_parts info_errno
  go_enter Tryd.func6, Tryd.ntmps6
  go_wp2_with (first
    | (go_at_call 10; (with_reducible refine (newTable_VS _ cores n h8 hn).mono ?_); rintro e w1 ⟨T, B, rfl, R1⟩)
    | (at_make; refine wpList_make_full _ rfl _ _ 26 rfl w.heap.size 28 i0 _ 1 Tryd.underlying26 hi hz0 hz1 .i64 .i64 _ _ m rfl rfl rfl rfl ?c1 ?c2 ?c3 ?_)
    | fail)
  case c1 => rw [hz2]; omega
  case c2 => unfold maxLen; omega
  case c3 => exact R1.below.size
  intro w2 hown hgrow
  have hlt := R1.lt
  have hsz := R1.below.size
  have hw1 : w.heap.size ≤ w1.heap.size := hsz
  have P0 : PlayV w T B w1.heap.size cores m (List.replicate n zs, []) w2 := by
    obtain ⟨_, h2⟩ := hown
    rcases h2 with ⟨h2, _⟩ | ⟨g, cp, cur, e, _, hc, _, _, hsz, _⟩
    · cases h2
    · simp only [Value.slice.injEq, Option.some.injEq, Addr.mk.injEq, and_true, true_and] at e
      obtain ⟨rfl, rfl⟩ := e
      exact ⟨_, R1.rebase w1.heap.size _ (R1.below.grown hgrow hw1 (fun k hk => by cases hk)) (hgrow.block T hlt.1 (by simp)) (hgrow.block B hlt.2.1 (by simp)) (by omega) (by omega) hc, hw1, cur, rfl, by simpa using hsz, fun j x hj => by simp at hj⟩
  clear hown hgrow R1 hsz
  go_wp2_with fail
  go_loopw [35] (fun i wr => ∃ k : Nat, k ≤ m ∧ i = .int .i64 k ∧ PlayV w T B w1.heap.size cores m (runV cores n (ops.take k)) wr) (fun i _ => m - (intOf i).toNat)
  case atStart => exact ⟨0, Nat.zero_le _, rfl, P0⟩
  case round =>
    clear P0
    obtain ⟨k, hk, rfl, P⟩ := hrel
    obtain ⟨st, hst⟩ : ∃ st, runV cores n (ops.take k) = st := ⟨_, rfl⟩
    have hlen := run_good cores n (ops.take k)
    rw [hst] at P hlen
    obtain ⟨hgd, hl1, hl2⟩ := hlen
    have hl3 : st.2.length = k := by rw [hl2, List.length_take, hm.out]; omega
    obtain ⟨ob, R, hE, cur, rfl, hcs, hci⟩ := P
    by_cases hkl : k < m
    · obtain ⟨o, ho⟩ : ∃ o, ops[k]? = some o := ⟨ops[k]'(by rw [hm.out]; exact hkl), List.getElem?_eq_getElem _⟩
      obtain ⟨K, L, M⟩ := o
      obtain ⟨b, off, rfl, hb, e0, e1, e2⟩ := at_op HA.out ho
      have g0 := (R.below.cell (p := ⟨b, off + k * 3, none⟩) hb).trans e0
      have g1 := (R.below.cell (p := ⟨b, off + k * 3 + 1, none⟩) hb).trans e1
      have g2 := (R.below.cell (p := ⟨b, off + k * 3 + 2, none⟩) hb).trans e2
      simp only at g0 g1 g2
      have hbr : b < wr.heap.size := Nat.lt_of_lt_of_le hb R.below.size
      obtain ⟨⟨l2, x2⟩, hs2⟩ : ∃ r, stepV cores st.1 ⟨K, L, M⟩ = r := ⟨_, rfl⟩
      have HS := Lib.hid hs2
      have HN : Hid (runV cores n (ops.take (k + 1)) = (l2, st.2 ++ [x2])) := by
        rw [runV_take ho, hst]
        unfold nextV
        rw [hs2]
        exact Lib.hid rfl
      have HI := Lib.hid hci
      have HL := Lib.hid hl3
      have R0 := R.alloc (.cells #[.int .i64 K, .int .i64 L, .int .i64 M] 24)
      clear hs2 hst ho hci hl3 hl2 hl1 hgd e0 e1 e2 R
      go_wp2_with (first
        | (go_at_call 11; (with_reducible refine (perform_VS hT R0 K L M l2 x2 HS).mono ?_); rintro e w3 ⟨rfl, R3⟩; have hEk := Lib.hid R3.kept.1; have fE := fun i => frozen_of_row w3 w1.heap.size i cur _ hEk.out; have hEc : ∃ z, w3.cell? ⟨w1.heap.size, k, none⟩ = some z := (by rw [cell_of_row w3 _ k _ _ _ hEk.out]; exact ⟨_, Array.getElem?_eq_getElem (by omega)⟩); obtain ⟨z, hEz⟩ := hEc)
        | fail)
      go_roundw
      case rel => exact ⟨k + 1, by omega, by go_num, by rw [HN.out]; exact R3.store hE hcs HL.out hkl HI.out x2⟩
      case measure => simp [intOf]; omega
    · obtain rfl : k = m := by omega
      have eT := R.head.2
      rw [hl1] at eT
      have hre : st = (l, es) := by rw [← hst, List.take_of_length_le (by rw [hm.out]; exact Nat.le_refl _)]; exact hr.out
      subst hre
      have hEk := R.kept.1
      have BB := Lib.hid R.below
      have HE := Lib.hid (err_at (cap := k) ⟨cur, hEk, hcs, hci⟩ : shE.At wr (some ⟨w1.heap.size, 0, none⟩) k es)
      have HB : Hid (shS.At wr (some ⟨B, 0, none⟩) n l) := by
        obtain ⟨_, fr, tk, r, _⟩ := R
        exact Lib.hid (row_at r.2.2.1 n)
      clear R hci hst hEk
      go_wp2_with fail
      go_quiet (fail)
      go_wp2_with fail
      refine bodyPost_ret (results_tmp3 rfl _ _ _) rfl ?_
      exact ⟨_, _, _, _, rfl, HE.out.step (below_drewN (Below.refl _ _) _), HB.out.step (below_drewN (Below.refl _ _) _), below_drewN BB.out _⟩
end Go.Proofs.YtmldedkmmhnihaaDoor
