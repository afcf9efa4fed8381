/- slices.Clone and slices.Reverse of numbers. -/
import Derived.Test.YtmldedkmmhnihaaSprOp
import Derived.Test.YtmldedkmmhnihaaSprE
import Derived.Test.YtmldedkmmhnihaaGen
import Derived.Lib.SliceRun
namespace Go.Proofs.Ytmldedkmmhnihaa
open Go.RowKit

def shI : Shape Int where
  size := 1
  enc x := [.int .i64 x]
  len _ := rfl
  one a u h := by simp at h; subst h; rfl
  pos := by decide
/-- A row of any numbers in a block of one's own. -/
def RowZ (w : World) (B n : Nat) (f : Nat → Int) : Prop := ∃ cur, w.heap[B]? = some (.cells cur 3 (0, 0)) ∧ ∀ i, i < n → cur[i]? = some (.int .i64 (f i))
section
variable {w w' : World} {B n : Nat} {f g : Nat → Int}
theorem RowZ.lt (r : RowZ w B n f) : B < w.heap.size := by
  obtain ⟨cur, hc, _⟩ := r
  exact (Array.getElem?_eq_some_iff.1 hc).1
theorem RowZ.same (r : RowZ w B n f) (h : w'.heap[B]? = w.heap[B]?) : RowZ w' B n f := by
  obtain ⟨cur, hc, hi⟩ := r
  exact ⟨cur, by rw [h]; exact hc, hi⟩
theorem RowZ.drew (r : RowZ w B n f) : RowZ w.drew B n f := r
theorem RowZ.congr (r : RowZ w B n f) (h : ∀ i, i < n → g i = f i) : RowZ w B n g := by
  obtain ⟨cur, hc, hi⟩ := r
  exact ⟨cur, hc, fun i hi' => by rw [h i hi']; exact hi i hi'⟩
theorem RowZ.cell (r : RowZ w B n f) {i : Nat} (h : i < n) : w.cell? ⟨B, i, none⟩ = some (.int .i64 (f i)) := by
  obtain ⟨cur, hc, hi⟩ := r
  rw [cell_of_row w B i _ _ _ hc]
  exact hi i h
theorem RowZ.frozen (r : RowZ w B n f) (i : Nat) : w.frozen? ⟨B, i, none⟩ = false := by
  obtain ⟨cur, hc, _⟩ := r
  exact frozen_of_row w B i cur _ hc
theorem RowZ.put (r : RowZ w B n f) {i : Nat} (h : i < n) (v : Int) : RowZ (w.setCell ⟨B, i, none⟩ (.int .i64 v)) B n (fun j => if j = i then v else f j) := by
  obtain ⟨cur, hc, hi⟩ := r
  have h8 : i < cur.size := (Array.getElem?_eq_some_iff.1 (hi i h)).1
  refine ⟨_, heap_setCell_same w B i cur _ _ hc, fun x hx => ?_⟩
  by_cases e : x = i
  · subst e
    simp [Array.getElem?_setIfInBounds]
    omega
  · rw [Array.getElem?_setIfInBounds_ne (fun q => e q.symm)]
    simp only [if_neg e]
    exact hi x hx
theorem RowZ.at (r : RowZ w B n f) (cap : Nat) : IntAt w (some ⟨B, 0, none⟩) cap n f :=
  ⟨(fun h => by cases h), fun _ => ⟨B, 0, rfl, r.lt, fun i hi => by rw [Nat.zero_add]; exact r.cell hi⟩⟩
end
/-- A slice of numbers of a call's own: nil, or a block from 'base' on. -/
def OwnZ (base : Nat) (w : World) (ad : Option Addr) (cap n : Nat) (f : Nat → Int) : Prop := (ad = none ∧ cap = 0 ∧ n = 0) ∨ ∃ B, ad = some ⟨B, 0, none⟩ ∧ base ≤ B ∧ RowZ w B n f
theorem OwnZ.at {base : Nat} {w : World} {ad : Option Addr} {cap n : Nat} {f : Nat → Int} (h : OwnZ base w ad cap n f) : IntAt w ad cap n f := by
  rcases h with ⟨rfl, rfl, rfl⟩ | ⟨B, rfl, _, h⟩
  · exact ⟨fun _ => ⟨rfl, rfl⟩, fun h => by omega⟩
  · exact h.at cap
/-- A slice of numbers reads as a list. -/
theorem ints_list {w : World} {ad : Option Addr} {cap n : Nat} {f : Nat → Int} (h : IntAt w ad cap n f) : shI.At w ad cap ((List.range n).map f) := by
  refine ⟨fun e => ?_, fun h0 => ?_⟩
  · obtain ⟨h1, h2⟩ := h.1 e
    subst h2
    exact ⟨h1, rfl⟩
  · have h0' : 0 < n := by simpa using h0
    obtain ⟨b, off, e, hlt, hl⟩ := h.2 h0'
    refine ⟨b, off, e, hlt, fun k hk => ?_⟩
    have hk' : k < n := by simpa [shI] using hk
    rw [hl k hk']
    have := shI.flat_at ((List.range n).map f) k 0 (f k) (by simp [hk']) (by decide)
    rw [show k * shI.size + 0 = k by simp [shI]] at this
    rw [this]
    rfl
theorem own_list {base : Nat} {w : World} {ad : Option Addr} {cap n : Nat} {f : Nat → Int} (h : w.ownsRow base 3 1 (.slice ad n cap) n (shI.flat ((List.range n).map f))) : OwnZ base w ad cap n f := by
  obtain ⟨h1, h2⟩ := h
  rcases h2 with ⟨h2, h3⟩ | ⟨g, cp, cur, e, hg, hc, _, _, hsz, ht⟩
  · simp only [Value.slice.injEq] at h2
    obtain ⟨rfl, rfl, rfl⟩ := h2
    exact Or.inl ⟨rfl, rfl, rfl⟩
  · simp only [Value.slice.injEq, true_and] at e
    obtain ⟨rfl, rfl⟩ := e
    refine Or.inr ⟨g, rfl, hg, cur, hc, fun i hi => ?_⟩
    have := shI.flat_at ((List.range n).map f) i 0 (f i) (by simp [hi]) (by decide)
    rw [show i * shI.size + 0 = i by simp [shI], ← ht, List.getElem?_take_of_lt (by omega), Array.getElem?_toList] at this
    rw [this]
    rfl
theorem info_parts1 : ∃ i, Try.prog.info? 3 = some i ∧ i.zero = some (.int .i64 0) ∧ i.size = 1 ∧ i.bytes = 8 := by
  have h := info_int
  cases e : Try.prog.info? 3 with
  | none => rw [e] at h; cases h
  | some i =>
    rw [e] at h
    simp only [Option.map_some, Option.some.injEq, Prod.mk.injEq] at h
    exact ⟨i, rfl, h.1, h.2.1, h.2.2⟩
/-- What Clone gives. -/
def CloneOut (W : World) (n : Nat) (f : Nat → Int) (e : Ending) (w' : World) : Prop := ∃ ra rc, e = .returned (.slice ra n rc) ∧ OwnZ W.heap.size w' ra rc n f ∧ Below W.heap.size W w'
set_option maxHeartbeats 1000000 in
set_option maxRecDepth 100000 in
theorem clone_R {ad : Option Addr} {cap n : Nat} {f : Nat → Int} (w : World) (HA : Hid (IntAt w ad cap n f)) (hn : n ≤ 17592186044415) :
    Calls Try.prog 19 #[.slice ad n cap] w (CloneOut w n f) := by
  obtain ⟨i0, hi, hz0, hz1, hz2⟩ := info_parts1
  have qn : ∀ (w : World) (a : Option Addr) (n c n' c' : Nat), (binOp .eql 47 (.slice a n c) (.slice none n' c')).run Try.prog w = .ok (.bool a.isNone) w := fun w a n c n' c' => Lib.run_eql_slice_nil w _ _ a n c n' c' Try.underlying47
  cases ad with
  | none =>
    obtain ⟨rfl, rfl⟩ := HA.out.1 rfl
    clear HA
    go_enter Try.func19, Try.ntmps19
    go_wp2_with fail
    go_ret
    exact ⟨none, 0, rfl, Or.inl ⟨rfl, rfl, rfl⟩, Below.refl _ _⟩
  | some a =>
    have hown : (w.alloc (.cells #[] 3)).ownsRow w.heap.size 3 1 (.slice (some ⟨w.heap.size, 0, none⟩) 0 0) 0 [] := World.ownsRow_made w #[] 0 (Nat.le_refl _) (by decide) rfl
    have HO := Lib.hid hown
    have HA2 := Lib.hid (ints_list (HA.out.step (below_al w (.cells #[] 3))))
    have HLN : Hid (((List.range n).map f).length = n) := Lib.hid (by simp)
    clear hown
    go_enter Try.func19, Try.ntmps19
    go_wp2_with (first
      | (at_builtin; refine wpList_append_at shI rfl _ _ 47 rfl w.heap.size 3 i0 _ 8 Try.underlying47 hi hz0 hz1 hz2 rfl (.slice (some ⟨w.heap.size, 0, none⟩) 0 0) [] ((List.range n).map f) rfl HO.out (some a) n cap rfl HLN HA2.out ?h63 ?hby ?hba ?_)
      | fail)
    case h63 => simp; unfold maxLen; omega
    case hby => simp; omega
    case hba => simp
    intro ra rc w3 own3 grow3 _
    have B3 : Below w.heap.size w w3 := (below_al w _).grown grow3 (by simp) (fun k hk => by simp [Value.ownBlock] at hk; omega)
    have O3 := Lib.hid own3
    clear own3 grow3
    go_wp2_with fail
    go_ret
    refine ⟨ra, rc, by simp, ?_, B3⟩
    exact own_list O3.out
set_option maxHeartbeats 1000000 in
set_option maxRecDepth 100000 in
theorem reverse_R {W : World} {ad : Option Addr} {cap n : Nat} {f : Nat → Int} (w : World) (HB : Hid (Below W.heap.size W w)) (HA : Hid (OwnZ W.heap.size w ad cap n f)) (hn : n ≤ 17592186044415) :
    Calls Try.prog 20 #[.slice ad n cap] w fun e w' => e = .returned (.tuple #[]) ∧ OwnZ W.heap.size w' ad cap n (fun i => f (n - 1 - i)) ∧ Below W.heap.size W w' := by
  go_enter Try.func20, Try.ntmps20
  go_wp2_with fail
  rcases HA.out with ⟨rfl, rfl, rfl⟩ | ⟨B, rfl, hB, hr⟩
  · go_loopw [2, 3] (fun x y wr => x = .int .i64 0 ∧ y = .int .i64 (-1) ∧ w = wr) (fun _ _ _ => 0)
    case atStart => exact ⟨rfl, by go_num, rfl⟩
    case round =>
      obtain ⟨rfl, rfl, rfl⟩ := hrel
      go_wp2_with fail
      go_end0
      exact ⟨rfl, Or.inl ⟨rfl, rfl, rfl⟩, HB.out⟩
  · have HR := Lib.hid hr
    clear hr HA
    go_loopw [2, 3] (fun x y wr => ∃ i : Nat, i ≤ n ∧ x = .int .i64 i ∧ y = .int .i64 ((n : Int) - 1 - i) ∧ RowZ wr B n (rvK f n i) ∧ Below W.heap.size W wr) (fun x _ _ => n - (intOf x).toNat)
    case atStart => exact ⟨0, Nat.zero_le _, rfl, by go_num, HR.out.congr (rvK_zero f n), HB.out⟩
    case round =>
      obtain ⟨i, hi, rfl, rfl, hr, hb⟩ := hrel
      have R := Lib.hid hr
      have BB := Lib.hid hb
      by_cases hlt : 2 * i + 1 < n
      · obtain ⟨j, hj⟩ : ∃ j, n - 1 - i = j := ⟨_, rfl⟩
        have ej : (n : Int) - 1 - (i : Int) = (j : Int) := by omega
        rw [ej]
        have hin : i < n := by omega
        have hjn : j < n := by omega
        have ci := hr.cell hin
        have cj := hr.cell hjn
        have fi := hr.frozen i
        have fj := hr.frozen j
        have e1 : rvK f n i i = f i := if_neg (by omega)
        have e2 : rvK f n i j = f j := if_neg (by omega)
        rw [e1] at ci
        rw [e2] at cj
        obtain ⟨x, hx⟩ : ∃ x, f i = x := ⟨_, rfl⟩
        obtain ⟨y, hy⟩ : ∃ y, f j = y := ⟨_, rfl⟩
        rw [hx] at ci
        rw [hy] at cj
        have hne : ¬ i = j := by omega
        have hne2 : ¬ j = i := by omega
        have HST : Hid (∀ t, t < n → rvK f n (i + 1) t = if t = j then x else if t = i then y else rvK f n i t) := Lib.hid fun t ht => by
          unfold rvK
          by_cases g1 : t = j
          · rw [if_pos g1, if_pos (by omega), ← hx]; congr 1; omega
          · by_cases g2 : t = i
            · rw [if_neg g1, if_pos g2, if_pos (by omega), ← hy]; congr 1; omega
            · rw [if_neg g1, if_neg g2]
              by_cases g3 : t < i ∨ n ≤ t + i
              · rw [if_pos g3, if_pos (by omega)]
              · rw [if_neg g3, if_neg (by omega)]
        have HST2 : Hid (∀ t, t < n → rvK f n (i + 1) t = if t = i then y else if t = j then x else rvK f n i t) := Lib.hid fun t ht => by
          rw [HST.out t ht]
          by_cases g1 : t = j
          · rw [if_pos g1, if_neg (by omega), if_pos g1]
          · rw [if_neg g1, if_neg g1]
        have S1 := Lib.hid (((R.out.put hin y).put hjn x).congr HST.out)
        have S2 := Lib.hid (((R.out.put hjn x).put hin y).congr HST2.out)
        have K1 := Lib.hid ((BB.out.setCell (p := ⟨B, i, none⟩) hB (.int .i64 y)).setCell (p := ⟨B, j, none⟩) hB (.int .i64 x))
        have K2 := Lib.hid ((BB.out.setCell (p := ⟨B, j, none⟩) hB (.int .i64 x)).setCell (p := ⟨B, i, none⟩) hB (.int .i64 y))
        clear hr hb e1 e2 hx hy
        go_wp2_with fail
        go_region
        all_goals go_wp2_with fail
        all_goals go_roundw
        case rel => exact ⟨i + 1, by omega, by go_num, by go_num, S1.out.drew, K1.out.drew⟩
        case measure => simp [intOf]; omega
      · have HRV := Lib.hid (R.out.congr fun t ht => (rvK_last (f := f) (show n ≤ 2 * i + 1 by omega) t ht).symm)
        have t1 : ¬ (i : Int) < (n : Int) - 1 - (i : Int) := by omega
        clear hr hb
        go_wp2_with fail
        go_end0
        exact ⟨rfl, Or.inr ⟨B, rfl, hB, HRV.out⟩, BB.out⟩
end Go.Proofs.Ytmldedkmmhnihaa
