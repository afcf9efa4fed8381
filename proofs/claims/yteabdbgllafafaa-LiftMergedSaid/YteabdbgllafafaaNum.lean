/- Rows of numbers in memory, read by a function; the walk's shape of one number. Only api's types in sight. -/
import Derived.Test.YteabdbgllafafaaProg
import Derived.Test.YteabdbgllafafaaMem
import Derived.WalkKit
import Derived.Below
import Derived.Lib.Hide
import Derived.WalkSmall
import Derived.BigQuiet
import Derived.Deep.QuietTactic
namespace Go.Proofs.Yteabdbgllafafaa
open Go.RowKit

def shI : Shape Int := ⟨1, fun x => [.int .i64 x], fun _ => rfl, fun _ u hu => by simp at hu; subst hu; rfl, by decide⟩
theorem info_int : (Try.prog.info? 3).map (fun i => (i.zero, i.size, i.bytes)) = some (some (.int .i64 0), 1, 8) := by kernel_rfl
theorem info_errno : (Try.prog.info? 23).map (fun i => (i.zero, i.size, i.bytes)) = some (some (.int .i64 0), 1, 8) := by kernel_rfl
theorem at_int {w : World} {ad : Option Addr} {cap k : Nat} {l : List Int} {x : Int} (h : shI.At w ad cap l) (hk : l[k]? = some x) : ∃ b off, ad = some ⟨b, off, none⟩ ∧ b < w.heap.size ∧ w.cell? ⟨b, off + k, none⟩ = some (.int .i64 x) := by
  have hkl := (List.getElem?_eq_some_iff.1 hk).1
  obtain ⟨b, off, e, hb, hl⟩ := h.2 (by omega)
  have h0 := shI.flat_at l k 0 x hk (by decide)
  have hs : shI.size = 1 := rfl
  rw [hs, Nat.mul_one, Nat.add_zero] at h0
  rw [hs] at hl
  exact ⟨b, off, e, hb, by rw [hl _ (by omega), h0]; rfl⟩
/-- A slice of numbers, by a function. -/
def IntAt (w : World) (ad : Option Addr) (cap n : Nat) (f : Nat → Int) : Prop :=
  (ad = none → cap = 0 ∧ n = 0) ∧ (0 < n → ∃ b off, ad = some ⟨b, off, none⟩ ∧ b < w.heap.size ∧ ∀ i, i < n → w.cell? ⟨b, off + i, none⟩ = some (.int .i64 (f i)))
theorem IntAt.step {w w' : World} {ad : Option Addr} {cap n : Nat} {f : Nat → Int} (h : IntAt w ad cap n f) (hb : Below w.heap.size w w') : IntAt w' ad cap n f :=
  ⟨h.1, fun h0 => by
    obtain ⟨b, off, e, hlt, hl⟩ := h.2 h0
    exact ⟨b, off, e, Nat.lt_of_lt_of_le hlt hb.size, fun i hi => (hb.cell (p := ⟨b, off + i, none⟩) hlt).trans (hl i hi)⟩⟩
theorem IntAt.congr {w : World} {ad : Option Addr} {cap n : Nat} {f g : Nat → Int} (h : IntAt w ad cap n f) (e : ∀ i, i < n → g i = f i) : IntAt w ad cap n g :=
  ⟨h.1, fun h0 => by
    obtain ⟨b, off, ea, hlt, hl⟩ := h.2 h0
    exact ⟨b, off, ea, hlt, fun i hi => by rw [e i hi]; exact hl i hi⟩⟩
theorem IntAt.get {w : World} {ad : Option Addr} {cap n : Nat} {f : Nat → Int} (h : IntAt w ad cap n f) {i : Nat} (hi : i < n) : ∃ b off, ad = some ⟨b, off, none⟩ ∧ b < w.heap.size ∧ w.cell? ⟨b, off + i, none⟩ = some (.int .i64 (f i)) := by
  obtain ⟨b, off, e, hlt, hl⟩ := h.2 (by omega)
  exact ⟨b, off, e, hlt, hl i hi⟩
def fnL (l : List Int) (i : Nat) : Int := l.getD i 0
def rowL (f : Nat → Int) (n : Nat) : List Int := (List.range n).map f
theorem rowL_len (f : Nat → Int) (n : Nat) : (rowL f n).length = n := by simp [rowL]
theorem rowL_get {f : Nat → Int} {n i : Nat} (h : i < n) : (rowL f n)[i]? = some (f i) := by simp [rowL, h]
theorem fnL_get {l : List Int} {i : Nat} (h : i < l.length) : l[i]? = some (fnL l i) := by simp [fnL, h]
theorem IntAt.of {w : World} {ad : Option Addr} {cap n : Nat} {l : List Int} (h : shI.At w ad cap l) (hn : l.length = n) : IntAt w ad cap n (fnL l) := by
  subst hn
  refine ⟨fun e => ?_, fun h0 => ?_⟩
  · obtain ⟨h1, h2⟩ := h.1 e
    exact ⟨h1, by rw [h2]; rfl⟩
  · obtain ⟨b, off, e, hb, _⟩ := h.2 h0
    refine ⟨b, off, e, hb, fun i hi => ?_⟩
    obtain ⟨b', off', e', _, hc⟩ := at_int h (fnL_get hi)
    rw [e] at e'
    simp only [Option.some.injEq, Addr.mk.injEq, and_true] at e'
    obtain ⟨rfl, rfl⟩ := e'
    exact hc
theorem IntAt.list {w : World} {ad : Option Addr} {cap n : Nat} {f : Nat → Int} (h : IntAt w ad cap n f) : shI.At w ad cap (rowL f n) := by
  refine ⟨fun e => ?_, fun h0 => ?_⟩
  · obtain ⟨h1, h2⟩ := h.1 e
    exact ⟨h1, by rw [h2]; rfl⟩
  · rw [rowL_len] at h0
    obtain ⟨b, off, e, hb, hl⟩ := h.2 h0
    refine ⟨b, off, e, hb, fun i hi => ?_⟩
    have hi' : i < n := by rw [rowL_len] at hi; have : shI.size = 1 := rfl; rw [this] at hi; omega
    have hf := shI.flat_at _ i 0 _ (rowL_get (f := f) hi') (by decide)
    have hs : shI.size = 1 := rfl
    rw [hs, Nat.mul_one, Nat.add_zero] at hf
    rw [hl i hi', hf]
    rfl
/-- A row of numbers in a block of one's own. -/
def RowZ (w : World) (B n : Nat) (f : Nat → Int) : Prop := ∃ cur, w.heap[B]? = some (.cells cur 3 (0, 0)) ∧ ∀ i, i < n → cur[i]? = some (.int .i64 (f i))
/-- A function with one value turned. -/
def upF (f : Nat → Int) (i : Nat) (v : Int) : Nat → Int := fun j => if j = i then v else f j
section
variable {w w' : World} {B n : Nat} {f g : Nat → Int}
theorem RowZ.lt (r : RowZ w B n f) : B < w.heap.size := by
  obtain ⟨cur, hc, _⟩ := r
  exact (Array.getElem?_eq_some_iff.1 hc).1
theorem RowZ.same (r : RowZ w B n f) (h : w'.heap[B]? = w.heap[B]?) : RowZ w' B n f := by
  obtain ⟨cur, hc, hi⟩ := r
  exact ⟨cur, by rw [h]; exact hc, hi⟩
theorem RowZ.step (r : RowZ w B n f) (hb : Below w.heap.size w w') : RowZ w' B n f := r.same (hb.block B r.lt)
theorem RowZ.congr (r : RowZ w B n f) (h : ∀ i, i < n → g i = f i) : RowZ w B n g := by
  obtain ⟨cur, hc, hi⟩ := r
  exact ⟨cur, hc, fun i hi' => by rw [h i hi']; exact hi i hi'⟩
theorem RowZ.cell (r : RowZ w B n f) {i : Nat} (h : i < n) : w.cell? ⟨B, i, none⟩ = some (.int .i64 (f i)) := by
  obtain ⟨cur, hc, hi⟩ := r
  rw [cell_of_row w B i _ _ _ hc]
  exact hi i h
theorem RowZ.frozen (r : RowZ w B n f) (i : Nat) : w.frozen? ⟨B, i, none⟩ = false := by
  obtain ⟨cur, hc, _⟩ := r
  exact frozen_of_row w B i cur _ hc
theorem RowZ.put (r : RowZ w B n f) {i : Nat} (h : i < n) (v : Int) : RowZ (w.setCell ⟨B, i, none⟩ (.int .i64 v)) B n (upF f i v) := by
  obtain ⟨cur, hc, hi⟩ := r
  have h8 : i < cur.size := (Array.getElem?_eq_some_iff.1 (hi i h)).1
  refine ⟨_, heap_setCell_same w B i cur _ _ hc, fun x hx => ?_⟩
  by_cases e : x = i
  · subst e
    simp [upF, Array.getElem?_setIfInBounds]
    omega
  · rw [Array.getElem?_setIfInBounds_ne (fun q => e q.symm), upF, if_neg e]
    exact hi x hx
theorem RowZ.other (r : RowZ w B n f) {a : Addr} (h : ¬ B = a.block) (v : Value) : RowZ (w.setCell a v) B n f := r.same (Below.heap_setCell _ _ _ _ h)
theorem RowZ.at (r : RowZ w B n f) (cap : Nat) : IntAt w (some ⟨B, 0, none⟩) cap n f :=
  ⟨(fun h => by cases h), fun _ => ⟨B, 0, rfl, r.lt, fun i hi => by rw [Nat.zero_add]; exact r.cell hi⟩⟩
end
theorem RowZ.made {w : World} {base B n cap : Nat} (h : w.ownsRow base 3 1 (.slice (some ⟨B, 0, none⟩) n cap) n (madeCells #[Value.int .i64 0] n).toList) : RowZ w B n (fun _ => 0) := by
  obtain ⟨h1, h2⟩ := h
  rcases h2 with ⟨h2, _⟩ | ⟨g, cp, cur, e, _, hc, _, _, hsz, ht⟩
  · cases h2
  · simp only [Value.slice.injEq, Option.some.injEq, Addr.mk.injEq, and_true, true_and] at e
    obtain ⟨rfl, rfl⟩ := e
    refine ⟨cur, hc, fun i hi => ?_⟩
    have hk : (madeCells #[Value.int .i64 0] n).toList[i]? = some (Value.int .i64 0) := by
      unfold madeCells
      rw [Array.getElem?_toList, Array.getElem?_map, Array.getElem?_range, if_pos (by omega)]
      show some ((#[Value.int .i64 0] : Array Value)[i % 1]!) = _
      rw [Nat.mod_one]
      rfl
    rw [← ht, List.getElem?_take_of_lt (by omega), Array.getElem?_toList] at hk
    exact hk
/-- A struct of three cells in a block. -/
theorem trio_at {w : World} {b : Nat} {x y z : Value} {t : TypeId} {fr : Nat × Nat} (h : w.heap[b]? = some (.cells #[x, y, z] t fr)) : w.cell? ⟨b, 0, none⟩ = some x ∧ w.cell? ⟨b, 1, none⟩ = some y ∧ w.cell? ⟨b, 2, none⟩ = some z := by
  refine ⟨?_, ?_, ?_⟩ <;> (rw [cell_of_row _ _ _ _ _ _ h]; rfl)
theorem one_at {w : World} {b : Nat} {x : Value} {t : TypeId} {fr : Nat × Nat} (h : w.heap[b]? = some (.cells #[x] t fr)) : w.cell? ⟨b, 0, none⟩ = some x := by rw [cell_of_row _ _ _ _ _ _ h]; rfl
end Go.Proofs.Yteabdbgllafafaa
