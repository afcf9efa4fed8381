/- Slices of plain structs, whatever the program: a shape says how a datum lies in cells; how a slice reads as a list of data; append, in one law. No function of the project in sight. -/
import Derived.WalkKit
import Derived.Below
import Derived.Lib.Hide
import Derived.Laws.OwnMore
import Derived.Laws.Rows
import Derived.Deep.AppendLies
import Derived.Lib.AppendZerosOnto
import Derived.WalkSmall
namespace Go.Proofs.Yteabdbgllafafaa
open Go.RowKit

/-- How a datum lies in cells. -/
structure Shape (α : Type) where
  size : Nat
  enc : α → List Value
  len : ∀ a, (enc a).length = size
  one : ∀ a u, u ∈ enc a → u.oneCell' = true
  pos : 0 < size
namespace Shape
variable {α : Type} (S : Shape α)
def flat (l : List α) : List Value := l.flatMap S.enc
theorem flat_len (l : List α) : (S.flat l).length = l.length * S.size := by
  induction l with
  | nil => simp [flat]
  | cons a r ih =>
    simp only [flat, List.flatMap_cons, List.length_append, List.length_cons, S.len] at ih ⊢
    rw [ih, Nat.add_mul, Nat.one_mul, Nat.add_comm]
theorem flat_app (l m : List α) : S.flat (l ++ m) = S.flat l ++ S.flat m := by simp [flat]
theorem flat_one (l : List α) : ∀ u ∈ S.flat l, u.oneCell' = true := by
  intro u hu
  simp only [flat, List.mem_flatMap] at hu
  obtain ⟨a, _, h⟩ := hu
  exact S.one a u h
theorem flat_at : ∀ (l : List α) (j i : Nat) (a : α), l[j]? = some a → i < S.size → (S.flat l)[j * S.size + i]? = (S.enc a)[i]?
  | [], j, i, a, h, _ => by simp at h
  | b :: r, 0, i, a, h, hi => by
    simp at h
    subst h
    rw [show S.flat (b :: r) = S.enc b ++ S.flat r from rfl, Nat.zero_mul, Nat.zero_add, List.getElem?_append_left (by rw [S.len]; exact hi)]
  | b :: r, j + 1, i, a, h, hi => by
    rw [show S.flat (b :: r) = S.enc b ++ S.flat r from rfl, List.getElem?_append_right (by rw [S.len, Nat.add_mul]; omega), S.len, show (j + 1) * S.size + i - S.size = j * S.size + i by rw [Nat.add_mul]; omega]
    exact flat_at r j i a (by simpa using h) hi
/-- The slice reads as the list. -/
def At (w : World) (ad : Option Addr) (cap : Nat) (l : List α) : Prop :=
  (ad = none → cap = 0 ∧ l = []) ∧ (0 < l.length → ∃ b off, ad = some ⟨b, off, none⟩ ∧ b < w.heap.size ∧ ∀ k, k < l.length * S.size → w.cell? ⟨b, off + k, none⟩ = (S.flat l)[k]?)
variable {S}
theorem At.nil (w : World) : S.At w none 0 [] := ⟨fun _ => ⟨rfl, rfl⟩, fun h => by simp at h⟩
theorem At.step {w w' : World} {ad : Option Addr} {cap : Nat} {l : List α} (h : S.At w ad cap l) (hb : Below w.heap.size w w') : S.At w' ad cap l :=
  ⟨h.1, fun h0 => by
    obtain ⟨b, off, e, hlt, hl⟩ := h.2 h0
    exact ⟨b, off, e, Nat.lt_of_lt_of_le hlt hb.size, fun k hk => (hb.cell (p := ⟨b, off + k, none⟩) hlt).trans (hl k hk)⟩⟩
theorem At.of_row {w : World} {base : Nat} {e : TypeId} {v : Value} {l : List α} (h : w.ownsRow base e S.size v l.length (S.flat l)) : ∃ ad cap, v = .slice ad l.length cap ∧ S.At w ad cap l := by
  obtain ⟨h1, h2⟩ := h
  rcases h2 with ⟨rfl, h0⟩ | ⟨g, cap, cur, hv, hg, hh, h3, h4, h5, h6⟩
  · have e0 : l = [] := List.eq_nil_of_length_eq_zero h0
    subst e0
    exact ⟨none, 0, rfl, At.nil w⟩
  · refine ⟨_, _, hv, fun e => by simp at e, fun h0 => ⟨g, 0, rfl, (Array.getElem?_eq_some_iff.1 hh).1, fun k hk => ?_⟩⟩
    rw [Nat.zero_add, cell_of_row w g k _ _ _ hh, ← h6, List.getElem?_take_of_lt hk, Array.getElem?_toList]
end Shape
section
variable {P : Program} {w : World}
theorem run_append_none_empty (base : Nat) (t ty e : TypeId) (i : TypeInfo) (size : Nat) (ht : P.underlying t = some (.slice e)) (hi : P.info? e = some i)
    (v : Value) (n : Nat) (xs : List Value) (hown : w.ownsRow base e size v n xs) (a : Addr) (c : Nat) :
    (Builtin.append_ #[t, t] ty #[v, .slice (some a) 0 c]).run P w = .ok v w := by
  rcases hown.2 with ⟨rfl, rfl⟩ | ⟨g, cap, cur, rfl, _, _, hnc, _⟩
  · simp [Builtin.append_, run_underlying ht, sizeOf, typeInfo, hi, Builtin.lenOf, Builtin.firstCells, loadCells, loadCellsFrom, Sem.run_bind]
  · simp [Builtin.append_, run_underlying ht, sizeOf, typeInfo, hi, Builtin.lenOf, Builtin.firstCells, hnc, storeCells, loadCells, loadCellsFrom, Sem.run_bind]
/-- 'append(v, ys...)', v the call's own (nil, too), ys whatever reads as a list (nil, too): in one law. -/
theorem run_append_at {α : Type} (S : Shape α) (base : Nat) (t ty e : TypeId) (i : TypeInfo) (z : Value) (bytes : Nat) (ht : P.underlying t = some (.slice e)) (hi : P.info? e = some i) (hz : i.zero = some z)
    (hsize : i.size = S.size) (hby : i.bytes = bytes) (hzs : z.cells.size = S.size) (v : Value) (xs ys : List α) (hown : w.ownsRow base e S.size v xs.length (S.flat xs)) (sa : Option Addr) (c : Nat) (hy : S.At w sa c ys)
    (h63 : xs.length + ys.length ≤ maxLen) (hbytes : (xs.length + ys.length) * bytes ≤ 140737488355328) (hbase : base ≤ w.heap.size) :
    ∃ ra rc w', (Builtin.append_ #[t, t] ty #[v, .slice sa ys.length c]).run P w = .ok (.slice ra (xs.length + ys.length) rc) w' ∧ w'.ownsRow base e S.size (.slice ra (xs.length + ys.length) rc) (xs.length + ys.length) (S.flat (xs ++ ys)) ∧ w.grownBy w' v.ownBlock ∧ (∀ g, (Value.slice ra (xs.length + ys.length) rc).ownBlock = some g → v.ownBlock = some g ∨ g = w.heap.size) := by
  by_cases h0 : 0 < ys.length
  · obtain ⟨b, off, rfl, hb, hl⟩ := hy.2 h0
    obtain ⟨g, cap, w', hr, h2, h3, h4, h5⟩ := run_append_lies (P := P) w t ty base e i z S.size bytes ht hi hz hsize hby hzs S.pos v xs.length (S.flat xs) hown ⟨b, off, none⟩ ys.length c (S.flat ys) (S.flat_len ys)
      (fun j u hj => by
        have hlt := (List.getElem?_eq_some_iff.1 hj).1
        rw [S.flat_len] at hlt
        rw [Go.WideShapes.add_plain, hl j hlt]
        exact hj) (S.flat_one ys) h0 h63 hbytes hbase w.heap.size rfl
    refine ⟨_, cap, w', hr, by rw [S.flat_app]; exact h2, h3, fun k hk => ?_⟩
    simp only [Value.ownBlock, Option.some.injEq] at hk
    subst hk
    exact h4
  · have e0 : ys = [] := List.eq_nil_of_length_eq_zero (by omega)
    subst e0
    rw [List.append_nil, List.length_nil, Nat.add_zero]
    obtain ⟨ra, rc, hv⟩ : ∃ ra rc, v = .slice ra xs.length rc := by
      rcases hown.2 with ⟨rfl, e⟩ | ⟨g, cap, cur, rfl, _⟩
      · exact ⟨none, 0, by rw [e]⟩
      · exact ⟨_, _, rfl⟩
    refine ⟨ra, rc, w, ?_, by rw [← hv]; exact hown, ⟨rfl, rfl, rfl, Nat.le_refl _, fun _ _ _ => rfl⟩, fun k hk => Or.inl (by rw [hv]; exact hk)⟩
    rw [← hv]
    cases sa with
    | none =>
      obtain ⟨rfl, _⟩ := hy.1 rfl
      exact run_append_owned_none w base t ty e i S.size ht hi v xs.length (S.flat xs) hown
    | some a => exact run_append_none_empty base t ty e i S.size ht hi v xs.length (S.flat xs) hown a c
theorem wpList_append_at {α : Type} (S : Shape α) {ops : Array Oper} {rest : List Oper} {o : Oper} {a : Act} {Q : Exit → Act → World → Prop} (hgd : o.guard = none) (s x : Operand) (t : TypeId)
    (ho : o.op = .call { callee := .builtin .append, args := #[s, x], argTypes := #[t, t] })
    (base : Nat) (e : TypeId) (i : TypeInfo) (z : Value) (bytes : Nat) (ht : P.underlying t = some (.slice e)) (hi : P.info? e = some i) (hz : i.zero = some z)
    (hsize : i.size = S.size) (hby : i.bytes = bytes) (hzs : z.cells.size = S.size) (v : Value) (xs ys : List α) (hs : a.eval s = v) (hown : w.ownsRow base e S.size v xs.length (S.flat xs)) (sa : Option Addr) (m c : Nat) (hx : a.eval x = .slice sa m c) (hm : Hid (ys.length = m)) (hy : S.At w sa c ys)
    (h63 : xs.length + m ≤ maxLen) (hbytes : (xs.length + m) * bytes ≤ 140737488355328) (hbase : base ≤ w.heap.size)
    (h : ∀ ra rc w', w'.ownsRow base e S.size (.slice ra (xs.length + m) rc) (xs.length + m) (S.flat (xs ++ ys)) → w.grownBy w' v.ownBlock → (∀ g, (Value.slice ra (xs.length + m) rc).ownBlock = some g → v.ownBlock = some g ∨ g = w.heap.size) → wpList P ops Q rest (a.put o.dst (.slice ra (xs.length + m) rc)) w') : wpList P ops Q (o :: rest) a w := by
  refine wpList_plain hgd fun K hK => ?_
  have e := hm.out
  subst e
  obtain ⟨ra, rc, w', hr, h2, h3, h4⟩ := run_append_at (P := P) S base t o.type _ i z bytes ht hi hz hsize hby hzs v xs ys hown sa c hy h63 hbytes hbase
  unfold Oper.wp execOp
  simp only [ho, resolve, invoke, builtin, Sem.run_bind, Sem.run_pure, Result.andThen_ok, List.map_toArray, List.map_cons, List.map_nil, hs, hx, hr]
  exact hK _ _ (h ra rc w' h2 h3 h4)
/-- 'make' of n zero values behind nothing: slices.Grow's append at the nil slice. -/
theorem run_grow_nil {α : Type} (S : Shape α) (t tn ty e : TypeId) (i : TypeInfo) (z : Value) (bytes : Nat) (ht : P.underlying t = some (.slice e)) (htn : P.underlying tn = some (.int .i64)) (hi : P.info? e = some i) (hz : i.zero = some z)
    (hsize : i.size = S.size) (hby : i.bytes = bytes) (hzs : z.cells.size = S.size) (n : Nat) (h0 : 0 < n) (h63 : n ≤ maxLen) (hbytes : n * bytes ≤ 140737488355328) :
    ∃ cap w', n ≤ cap ∧ cap ≤ maxLen ∧ (Builtin.append_ #[t, tn] ty #[.slice none 0 0, .int .i64 n]).run P w = .ok (.slice (some ⟨w.heap.size, 0, none⟩) n cap) w' ∧ w'.ownsRow w.heap.size e S.size (.slice (some ⟨w.heap.size, 0, none⟩) 0 cap) 0 (S.flat []) ∧ Below w.heap.size w w' := by
  have hold : (Builtin.firstCells i.size 0 (.slice none 0 0)).run P w.drew = .ok ([] : List Value).toArray w.drew := run_firstCells_none w.drew i.size 0 0 0
  have hpos := S.pos
  have hm := h63
  unfold maxLen at hm
  have h := Lib.run_append_grow_zeros w t tn ty e i z .i64 .i64 ht htn hi hz none 0 0 [] hold n h0 (by omega) (by omega) (by omega) (by rw [hby]; omega) (by rw [Nat.zero_add, hby]; exact growslice_fits h0 hbytes)
  rw [Nat.zero_add] at h
  have hc1 := grownCap_ge w n 0 e
  refine ⟨grownCap w n 0 e, _, hc1, grownCap_le_maxLen w n 0 e h63, h, ?_, ((Below.refl _ _).drew).alloc (Nat.le_refl _) _⟩
  refine World.ownsRow_made w.drew _ _ (Nat.le_refl _) (grownCap_le_maxLen w n 0 e h63) ?_
  simp [Builtin.zeroCells, hzs]
  rw [← Nat.add_mul]
  congr 1
  omega
end
end Go.Proofs.Yteabdbgllafafaa
