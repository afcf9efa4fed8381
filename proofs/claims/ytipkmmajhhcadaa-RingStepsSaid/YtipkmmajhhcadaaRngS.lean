/- Package ring's arguments: how many cells a ring that comes in may have. -/
import Derived.Test.YtipkmmajhhcadaaRngO
import Derived.SizedLaws
namespace Go.Proofs.Ytipkmmajhhcadaa
open Go.ChangeShapes Go.WideShapes Go.ChangeAt Go.RowKit Go.Deep

theorem bytesCell : Try.prog.bytesOf 47 = 16 := by kernel_rfl
theorem ring_bound {H : Type} {enc : TypeId × Value → H} {W : World} {v : Value} {dt : DataW H} {p : List MemPlace} (h : DataW.Trod enc Try.prog W 0 (fun _ => true) true 24 v dt p) {ts : List TypeId} {ds : List (DataW H)} (hsz : (DataW.weightsEach Try.prog ts ds).all (· ≤ reachBytes) = true) {j : Nat} (ht : ts[j]? = some 24) (hd : ds[j]? = some dt) :
    ∀ (ad : Option Addr) (n cap : Nat) (g t k : Int), v = .agg #[.slice ad n cap, .int .i64 g, .int .i64 t, .int .i64 k] → n ≤ 8796093022208 := by
  rintro ad n cap g t k rfl
  obtain ⟨fuel, hf⟩ := h
  obtain ⟨xs, m, _, hx0, _, hx, hg⟩ := DataW.trod_struct Try.underlying24 hf
  obtain ⟨y0, y1, y2, y3, rfl⟩ := four xs (by simpa using hx)
  simp only [Prod.mk.injEq] at hx0
  obtain ⟨rfl, _⟩ := hx0
  have g0 := hg 0 _ rfl
  have g0' : DataW.trod enc Try.prog W 0 (fun _ => true) true m 22 [.slice ad n cap] = some y0 := by simpa [cellsCells, Value.cells] using g0
  rcases (slice_reads shCe Try.underlying22 cellsCell (fun n cs y => cell_of n cs y) g0').len with e | ⟨el, sp, e1, e2⟩
  · have : n = 0 := e
    omega
  · have e3 : el.length = n := e2
    have w1 : (el.length + sp.length) * Try.prog.bytesOf 47 ∈ y0.1.weights Try.prog 22 := by
      rw [e1]
      simp [DataW.weights, Try.underlying22]
    have w2 : (el.length + sp.length) * Try.prog.bytesOf 47 ∈ (DataW.agg ([y0, y1, y2, y3].map (·.1))).weights Try.prog 24 := by
      simp only [DataW.weights, Try.underlying24]
      exact DataW.weights_mem_each (j := 0) rfl rfl _ w1
    have w3 := List.all_eq_true.1 hsz _ (DataW.weights_mem_each ht hd _ w2)
    rw [bytesCell] at w3
    have w4 := of_decide_eq_true w3
    have := reachBytes_lt
    omega
end Go.Proofs.Ytipkmmajhhcadaa
