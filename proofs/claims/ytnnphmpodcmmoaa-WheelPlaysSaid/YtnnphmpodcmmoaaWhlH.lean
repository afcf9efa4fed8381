/- Package wheel: a wheel that was just made. -/
import Derived.Test.YtnnphmpodcmmoaaWhlG
import Derived.Test.YtnnphmpodcmmoaaRowL
namespace Go.Proofs.Ytnnphmpodcmmoaa
open Go.RowKit Go.Maps

def zW : Array Value := (#[Value.int .i64 0] ++ Array.replicate 511 (Value.slice none 0 0)) ++ #[Value.map none, Value.slice none 0 0]
theorem info_wheel : (Try.prog.info? 46).map (fun i => (i.zero, i.size)) = some (some (.agg zW), 514) := by kernel_rfl
theorem built_wheel (b : Nat) : Try.prog.built 46 [(2, .map (some b))] = some (zW.setIfInBounds 512 (.map (some b))) := by kernel_rfl
end Go.Proofs.Ytnnphmpodcmmoaa
