/- Strings of bytes: '[]byte(s)' in a walk, an index, tails, sums, comparisons. Only the types of bytes and strings in sight. -/
import Derived.Test.YtomgifdnnfbpnaaDoorByt
import Derived.Laws.Concat
import Derived.Lib.SliceRun
namespace Go.Proofs.YtomgifdnnfbpnaaDoor
open Go.RowKit

/-- '[]byte(s)' at the list of a plain region's operations. -/
theorem wpList_bytes {ops : Array Oper} {rest : List Oper} {o : Oper} {a : Act} {w : World} {Q : Exit → Act → World → Prop} (hgd : o.guard = none) (x : Operand) (ho : o.op = .convert 9 23 x) (l : List UInt8) (n : Nat) (hn : Hid (l.length = n)) (hx : a.eval x = .string (strB l))
    (h : ∀ c w', shB.At w' (some ⟨w.heap.size, 0, none⟩) c l → Below w.heap.size w w' → wpList Tryd.prog ops Q rest (a.put o.dst (.slice (some ⟨w.heap.size, 0, none⟩) n c)) w') : wpList Tryd.prog ops Q (o :: rest) a w := by
  refine wpList_plain hgd fun K hK => ?_
  obtain ⟨c, w', hr, h1, h2, _⟩ := conv_back w l
  rw [hn.out] at hr
  unfold Oper.wp execOp
  simp only [ho, hx, Sem.run_bind, Sem.run_pure, Result.andThen_ok, hr]
  exact hK _ _ (h c w' h1 h2)
theorem str_at' (l : List UInt8) (k : Nat) (x : UInt8) (h : l[k]? = some x) (W : World) : (Instr.index 9 (.string (strB l)) (.int .i64 (k : Nat))).run Tryd.prog W = .ok (.int .u8 (ub x)) W := by
  obtain ⟨hk, rfl⟩ := List.getElem?_eq_some_iff.1 h
  rw [run_index_string W _ _ _ _ Tryd.underlying9, dif_pos ⟨by omega, by rw [strB_size]; omega⟩]
  rfl
theorem str_index (x : UInt8) (r : List UInt8) (W : World) : (Instr.index 9 (.string (strB (x :: r))) (.int .i64 0)).run Tryd.prog W = .ok (.int .u8 (ub x)) W := str_at' (x :: r) 0 x rfl W
theorem str_from (l : List UInt8) (k : Nat) (hk : k ≤ l.length) (W : World) : (Instr.slice 9 (.string (strB l)) (some (.int .i64 (k : Nat))) none none).run Tryd.prog W = .ok (.string (strB (l.drop k))) W := by
  rw [run_slice_string_from_if W _ _ _ _ Tryd.underlying9, if_pos ⟨by omega, by rw [strB_size]; omega⟩]
  have := strB_drop l k
  rw [← this]
  rfl
theorem str_add (a b : List UInt8) (W : World) (h : a.length + b.length ≤ 9223372036854775807) : (Op.stringOp .add (strB a) (strB b)).run Tryd.prog W = .ok (.string (strB (a ++ b))) W := by
  rw [run_string_add_sum W _ _ (by rw [strB_size, strB_size]; exact h), strB_add]
/-- 's == nil' at a slice. -/
theorem eq_nil (w : World) (a : Option Addr) (n c : Nat) : (binOp .eql 23 (.slice a n c) (.slice none 0 0)).run Tryd.prog w = .ok (.bool a.isNone) w := Lib.run_eql_slice_nil w _ _ a n c 0 0 Tryd.underlying23
end Go.Proofs.YtomgifdnnfbpnaaDoor
