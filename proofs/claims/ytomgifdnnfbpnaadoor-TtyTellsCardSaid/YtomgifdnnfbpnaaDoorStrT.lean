/- Strings of bytes: the front part; comparisons with one blank. Only the types of bytes and strings in sight. -/
import Derived.Test.YtomgifdnnfbpnaaDoorStr
namespace Go.Proofs.YtomgifdnnfbpnaaDoor
open Go.RowKit

theorem strB_take (l : List UInt8) (k : Nat) : (strB l).extract 0 k = strB (l.take k) := by
  unfold strB
  rw [ByteArray.extract_mk]
  congr 1
theorem str_to (l : List UInt8) (k : Nat) (hk : k ≤ l.length) (W : World) : (Instr.slice 9 (.string (strB l)) none (some (.int .i64 (k : Nat))) none).run Tryd.prog W = .ok (.string (strB (l.take k))) W := by
  rw [run_slice_string_to_if W _ _ _ _ Tryd.underlying9, if_pos ⟨by omega, by rw [strB_size]; omega⟩]
  have := strB_take l k
  rw [← this]
  rfl
end Go.Proofs.YtomgifdnnfbpnaaDoor
