/- corebellref.OPlay's line in memory; the walk of its closure. -/
import Derived.Test.YtghonbiiichedaaWtK
import Derived.Test.YtghonbiiichedaaSetE
import Derived.Deep.RegionLaw
namespace Go.Proofs.Ytghonbiiichedaa
open Go.RowKit

def shQ : Shape WtT := ⟨2, fun q => [.int .i64 q.1, .int .i64 (q.2 : Nat)], fun _ => rfl, fun _ u hu => by simp at hu; rcases hu with rfl | rfl <;> rfl, by decide⟩
theorem info_ow : (Try.prog.info? 46).map (fun i => (i.zero, i.size, i.bytes)) = some (some (.agg #[.int .i64 0, .int .i64 0]), 2, 16) := by kernel_rfl
theorem at_ow {w : World} {ad : Option Addr} {cap k : Nat} {l : List WtT} {f : WtT} (h : shQ.At w ad cap l) (hk : l[k]? = some f) : ∃ b off, ad = some ⟨b, off, none⟩ ∧ b < w.heap.size ∧ w.cell? ⟨b, off + k * 2, none⟩ = some (.int .i64 f.1) ∧ w.cell? ⟨b, off + k * 2 + 1, none⟩ = some (.int .i64 (f.2 : Nat)) := by
  have hkl := (List.getElem?_eq_some_iff.1 hk).1
  obtain ⟨b, off, e, hb, hl⟩ := h.2 (by omega)
  have h0 := shQ.flat_at l k 0 f hk (by decide)
  have h1 := shQ.flat_at l k 1 f hk (by decide)
  have hs : shQ.size = 2 := rfl
  rw [hs] at h0 h1 hl
  refine ⟨b, off, e, hb, ?_, ?_⟩
  · rw [show off + k * 2 = off + (k * 2 + 0) from rfl, hl _ (by omega), h0]; rfl
  · rw [Nat.add_assoc, hl _ (by omega), h1]; rfl
theorem set_put {l : List WtT} (hn : NodW l) {k : Nat} {t : Int} {x : Nat} (hk : l[k]? = some (t, x)) (y : Nat) : l.set k (t, y) = putV l t y := by
  apply List.ext_getElem?
  intro j
  unfold putV
  rw [List.getElem?_set, List.getElem?_map]
  by_cases e : k = j
  · subst e
    rw [if_pos rfl, if_pos (List.getElem?_eq_some_iff.1 hk).1, hk]
    simp
  · rw [if_neg e]
    cases hj : l[j]? with
    | none => rfl
    | some q =>
      rw [Option.map_some, if_neg (fun h => e (nod_at hn hk hj h.symm))]
/-- OPlay's variables. -/
structure LpO (w0 wr : World) (X : Nat) (l : List WtT) (es gt : List Int) (v u g : Value) (ln en gn : Nat) : Prop where
  b : Below w0.heap.size w0 wr
  hX : w0.heap.size ≤ X
  x : wr.heap[X]? = some (.cells #[v] 44 (0, 0))
  ll : l.length = ln
  lo : wr.ownsRow w0.heap.size 46 2 v ln (shQ.flat l)
  el : es.length = en
  eo : wr.ownsRow w0.heap.size 28 1 u en (shI.flat es)
  gl : gt.length = gn
  go : wr.ownsRow w0.heap.size 3 1 g gn (shI.flat gt)
section
variable {w0 wr w' : World} {X : Nat} {l l' : List WtT} {es gt es' gt' : List Int} {v u g v' : Value} {ln en gn n' : Nat}
theorem own_keptW {w w' : World} {base e n size : Nat} {v : Value} {xs : List Value} (h : w.ownsRow base e size v n xs) {r : Option Nat} (hg : w.grownBy w' r) (hne : ∀ g, v.ownBlock = some g → some g ≠ r) : w'.ownsRow base e size v n xs :=
  own_heap h fun g _ hg' ho => (hg.block g (heap_lt ho) (hne g hg')).trans ho
theorem LpO.step (h : LpO w0 wr X l es gt v u g ln en gn) (hb : Below wr.heap.size wr w') : LpO w0 w' X l es gt v u g ln en gn :=
  ⟨pstep h.b hb, h.hX, heap_step h.x hb, h.ll, own_step h.lo hb, h.el, own_step h.eo hb, h.gl, own_step h.go hb⟩
theorem LpO.cell (h : LpO w0 wr X l es gt v u g ln en gn) : wr.cell? ⟨X, 0, none⟩ = some v ∧ X < wr.heap.size ∧ ∀ i, wr.frozen? ⟨X, i, none⟩ = false :=
  ⟨one_at h.x, heap_lt h.x, fun i => frozen_of_row wr X i _ _ h.x⟩
theorem LpO.err (h : LpO w0 wr X l es gt v u g ln en gn) (ho : w'.ownsRow w0.heap.size 28 1 v' n' (shI.flat es')) (hg : wr.grownBy w' u.ownBlock) (hl : es'.length = n') : LpO w0 w' X l es' gt v v' g ln n' gn :=
  ⟨h.b.grown hg h.b.size fun _ hk => (own_lt h.eo hk).1, h.hX, (hg.block X (heap_lt h.x) (fun e => own_ne h.eo h.x (by decide) X e.symm rfl)).trans h.x, h.ll, own_keptW h.lo hg fun g h1 h2 => own_two h.lo h.eo (by decide) g h1 h2.symm, hl, ho, h.gl, own_keptW h.go hg fun g h1 h2 => own_two h.go h.eo (by decide) g h1 h2.symm⟩
theorem LpO.gots (h : LpO w0 wr X l es gt v u g ln en gn) (ho : w'.ownsRow w0.heap.size 3 1 v' n' (shI.flat gt')) (hg : wr.grownBy w' g.ownBlock) (hl : gt'.length = n') : LpO w0 w' X l es gt' v u v' ln en n' :=
  ⟨h.b.grown hg h.b.size fun _ hk => (own_lt h.go hk).1, h.hX, (hg.block X (heap_lt h.x) (fun e => own_ne h.go h.x (by decide) X e.symm rfl)).trans h.x, h.ll, own_keptW h.lo hg fun g h1 h2 => own_two h.lo h.go (by decide) g h1 h2.symm, h.el, own_keptW h.eo hg fun g h1 h2 => own_two h.eo h.go (by decide) g h1 h2.symm, hl, ho⟩
/-- The line is another row, and is stored. -/
theorem LpO.line (h : LpO w0 wr X l es gt v u g ln en gn) (ho : w'.ownsRow w0.heap.size 46 2 v' n' (shQ.flat l')) {r : Option Nat} (hg : wr.grownBy w' r) (hr : ∀ k, r = some k → v.ownBlock = some k ∨ wr.heap.size ≤ k) (hl : l'.length = n') :
    (∃ z, w'.cell? ⟨X, 0, none⟩ = some z) ∧ X < w'.heap.size ∧ (∀ i, w'.frozen? ⟨X, i, none⟩ = false) ∧ LpO w0 (w'.setCell ⟨X, 0, none⟩ v') X l' es gt v' u g n' en gn := by
  have hne : ∀ (b t : Nat) (cs : Array Value) (fr : Nat × Nat), wr.heap[b]? = some (.cells cs t fr) → ¬ t = 46 → w'.heap[b]? = some (.cells cs t fr) := fun b t cs fr hb ht => (hg.block b (heap_lt hb) (fun e => by
    rcases hr b e.symm with h1 | h1
    · exact own_ne h.lo hb ht b h1 rfl
    · have := heap_lt hb
      omega)).trans hb
  have hx' := hne _ _ _ _ h.x (by decide)
  have he : w'.ownsRow w0.heap.size 28 1 u en (shI.flat es) := own_keptW h.eo hg fun k h1 h2 => by
    rcases hr k h2.symm with h3 | h3
    · exact own_two h.eo h.lo (by decide) k h1 h3
    · have := (own_lt h.eo h1).2
      omega
  have hgo : w'.ownsRow w0.heap.size 3 1 g gn (shI.flat gt) := own_keptW h.go hg fun k h1 h2 => by
    rcases hr k h2.symm with h3 | h3
    · exact own_two h.go h.lo (by decide) k h1 h3
    · have := (own_lt h.go h1).2
      omega
  refine ⟨⟨_, one_at hx'⟩, heap_lt hx', fun i => frozen_of_row w' X i _ _ hx', ?_⟩
  exact ⟨(h.b.grown hg h.b.size (fun k e => by
    rcases hr k e with h3 | h3
    · exact (own_lt h.lo h3).1
    · exact Nat.le_trans h.b.size h3)).trans (Below.setCell (Below.refl _ _) h.hX _), h.hX, heap_setCell_same w' X 0 _ _ _ hx', hl, own_set ho (own_ne ho hx' (by decide)) _, h.el, own_set he (own_ne he hx' (by decide)) _, h.gl, own_set hgo (own_ne hgo hx' (by decide)) _⟩
/-- One of the line is something else. -/
theorem LpO.put {g0 lc : Nat} (h : LpO w0 wr X l es gt (.slice (some ⟨g0, 0, none⟩) ln lc) u g ln en gn) (hn : NodW l) {k : Nat} {t : Int} {x : Nat} (hk : l[k]? = some (t, x)) (y : Nat) : LpO w0 (wr.setCell ⟨g0, k * 2 + 1, none⟩ (.int .i64 (y : Nat))) X (putV l t y) es gt (.slice (some ⟨g0, 0, none⟩) ln lc) u g ln en gn := by
  have hb := own_lt h.lo (g := g0) rfl
  have h1 := own_entry (S := shQ) (i := 1) (v := .int .i64 (y : Nat)) (a' := (t, y)) h.lo hk (by decide) rfl
  have hs : shQ.size = 2 := rfl
  rw [hs, set_put hn hk] at h1
  have hXg : ¬ X = g0 := fun e => own_ne h.lo h.x (by decide) g0 rfl e.symm
  exact ⟨h.b.trans (Below.setCell (Below.refl _ _) hb.1 _), h.hX, (Below.heap_setCell wr _ _ X hXg).trans h.x, by rw [len_names (put_names l t y)]; exact h.ll, h1, h.el, own_set h.eo (fun k h2 e => own_two h.eo h.lo (by decide) k h2 (by simp only at e; rw [e]; rfl)) _, h.gl, own_set h.go (fun k h2 e => own_two h.go h.lo (by decide) k h2 (by simp only at e; rw [e]; rfl)) _⟩
end
set_option maxHeartbeats 1000000 in
set_option maxRecDepth 100000 in
theorem wakeO_W {w0 w : World} {X : Nat} {l : List WtT} {es gt : List Int} {la : Option Addr} {lc : Nat} {u g : Value} {ln en gn : Nat} (HL : Hid (LpO w0 w X l es gt (.slice la ln lc) u g ln en gn)) (HN : Hid (NodW l)) :
    Calls Try.prog 18 #[.pointer (some ⟨X, 0, none⟩)] w fun e w' => e = .returned (.tuple #[]) ∧ LpO w0 w' X (wakeV l) es gt (.slice la ln lc) u g ln en gn := by
  obtain ⟨c0, hXl, _⟩ := HL.out.cell
  have HA := Lib.hid (Shape.At.own (S := shQ) HL.out.lo HL.out.ll)
  have HLL := Lib.hid HL.out.ll
  have hn9 : ln ≤ 9223372036854775807 := by
    obtain ⟨ad', cap', hv, h1, h2, _⟩ := own_shape HL.out.lo
    unfold maxLen at h2
    omega
  obtain ⟨ad1, cap1, hv1, _, _, hz, ha⟩ := own_shape HL.out.lo
  simp only [Value.slice.injEq, true_and] at hv1
  obtain ⟨rfl, rfl⟩ := hv1
  have HZ := Lib.hid hz
  have HS := Lib.hid ha
  clear hz ha
  go_enter Try.func18, Try.ntmps18
  go_wp2_with fail
  go_loopw [4] (fun i wr => ∃ k : Nat, k ≤ ln ∧ i = .int .i64 k ∧ wr = w ∧ Hid (∀ j y, j < k → l[j]? = some y → y.2 = 2)) (fun i _ => ln - (intOf i).toNat)
  case atStart => exact ⟨0, Nat.zero_le _, rfl, rfl, Lib.hid (fun j y hj => by omega)⟩
  case round =>
    obtain ⟨k, hk, rfl, rfl, H2⟩ := hrel
    by_cases hlt : k < ln
    · obtain ⟨q, hq⟩ : ∃ q, l[k]? = some q := ⟨l[k]'(by rw [HLL.out]; exact hlt), List.getElem?_eq_getElem _⟩
      obtain ⟨g0, rfl⟩ : ∃ g0, la = some ⟨g0, 0, none⟩ := by
        cases la with
        | none => obtain ⟨h1, h2⟩ := HZ.out rfl; omega
        | some a => obtain ⟨g0, rfl, _⟩ := HS.out a rfl; exact ⟨g0, rfl⟩
      obtain ⟨b, off, ee, hbl, d0, d1⟩ := at_ow HA.out hq
      cases ee
      rw [Nat.zero_add] at d0 d1
      have fz := own_froz HL.out.lo
      obtain ⟨t, x⟩ := q
      simp only at d0 d1
      have HQ := Lib.hid hq
      clear hq
      by_cases hx : x = 2
      · subst hx
        go_wp2_with fail
        go_roundw
        case rel => exact ⟨k + 1, by omega, by go_num, (by first | rfl | trivial), Lib.hid (fun j y hj hy => by
          by_cases e : j = k
          · subst e
            rw [HQ.out] at hy
            cases hy
            rfl
          · exact H2.out j y (by omega) hy)⟩
        case measure => simp [intOf]; omega
      · have hxi : ¬ (x : Int) = 2 := by omega
        have hxb : ((x : Int) == 2) = false := by simp; omega
        have HW := Lib.hid (wake_put HN.out HQ.out H2.out hx)
        clear hx
        go_wp2_with fail
        refine bodyPost_ret (results_none rfl _ _ _) rfl ?_
        refine ⟨rfl, ?_⟩
        rw [HW.out]
        exact HL.out.put HN.out HQ.out 2
    · obtain rfl : k = ln := by omega
      have HW : Hid (wakeV l = l) := Lib.hid (wake_none fun j y hy => H2.out j y (by rw [← HLL.out]; exact (List.getElem?_eq_some_iff.1 hy).1) hy)
      clear hlt hk
      go_wp2_with fail
      go_end0
      refine ⟨rfl, ?_⟩
      rw [HW.out]
      exact HL.out
end Go.Proofs.Ytghonbiiichedaa
