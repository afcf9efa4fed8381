/- Bytes: a row of them reads as a list, a string of them; conversions between the two; a literal of one byte. Only the types of bytes and strings in sight. -/
import Derived.Test.YtomgifdnnfbpnaaDoorProg
import Derived.Test.YtomgifdnnfbpnaaDoorMem
import Derived.Test.YtomgifdnnfbpnaaDoorQue
import Derived.WalkKit
import Derived.Lib.Hide
import Derived.WalkSmall
import Derived.Laws.IdiomStrings
import Derived.Laws.DeepStrings4
import Derived.Laws.Strings3
namespace Go.Proofs.YtomgifdnnfbpnaaDoor
open Go.RowKit

/-- One byte as a value. -/
def ub (b : UInt8) : Int := (b.toNat : Int)
def shB : Shape UInt8 := ⟨1, fun b => [.int .u8 (ub b)], fun _ => rfl, fun _ u hu => by simp at hu; subst hu; rfl, by decide⟩
theorem info_byte : (Tryd.prog.info? 5).map (fun i => (i.zero, i.size, i.bytes)) = some (some (.int .u8 0), 1, 1) := by kernel_rfl
theorem flat_byte (l : List UInt8) : shB.flat l = l.map fun b => .int .u8 (ub b) := by
  induction l with
  | nil => rfl
  | cons a r ih => rw [show shB.flat (a :: r) = shB.enc a ++ shB.flat r from rfl, ih]; rfl
theorem at_byte {w : World} {ad : Option Addr} {cap k : Nat} {l : List UInt8} {x : UInt8} (h : shB.At w ad cap l) (hk : l[k]? = some x) : ∃ b off, ad = some ⟨b, off, none⟩ ∧ b < w.heap.size ∧ w.cell? ⟨b, off + k, none⟩ = some (.int .u8 (ub x)) := by
  have hkl := (List.getElem?_eq_some_iff.1 hk).1
  obtain ⟨b, off, e, hb, hl⟩ := h.2 (by omega)
  have h0 := shB.flat_at l k 0 x hk (by decide)
  have hs : shB.size = 1 := rfl
  rw [hs, Nat.mul_one, Nat.add_zero] at h0
  rw [hs] at hl
  exact ⟨b, off, e, hb, by rw [hl _ (by omega), h0]; rfl⟩
/-- A list of bytes as a string. -/
def strB (l : List UInt8) : ByteArray := ⟨l.toArray⟩
theorem strB_list (l : List UInt8) : (strB l).toList = l := ByteArray.toList_mk l
theorem strB_size (l : List UInt8) : (strB l).size = l.length := by simp [strB, ByteArray.size]
theorem strB_nil : (⟨#[]⟩ : ByteArray) = strB [] := rfl
theorem strB_add (a b : List UInt8) : strB a ++ strB b = strB (a ++ b) := by
  simp only [strB]
  apply ByteArray.ext
  simp
theorem strB_drop (l : List UInt8) (k : Nat) : (strB l).extract k (strB l).size = strB (l.drop k) := by
  unfold strB
  rw [ByteArray.extract_mk]
  congr 2
  rw [List.take_of_length_le]
  simp [ByteArray.size]
/-- 'string(b)' at a slice that reads as a list. -/
theorem conv_at {w : World} {ad : Option Addr} {cap n : Nat} {l : List UInt8} (h : shB.At w ad cap l) (hn : l.length = n) : (convert 23 9 (.slice ad n cap)).run Tryd.prog w = .ok (.string (strB l)) w := by
  subst hn
  by_cases h0 : 0 < l.length
  · obtain ⟨b, off, rfl, hb, hl⟩ := h.2 h0
    refine run_convert_bytes_back w _ _ _ _ cap l Tryd.underlying23 Tryd.underlying5 Tryd.underlying9 fun j hj => ?_
    have h1 := shB.flat_at l j 0 l[j] (List.getElem?_eq_getElem hj) (by decide)
    have hs : shB.size = 1 := rfl
    rw [hs, Nat.mul_one, Nat.add_zero] at h1
    rw [hs, Nat.mul_one] at hl
    rw [Go.WideShapes.add_plain, hl j hj, h1]
    rfl
  · have e0 : l = [] := List.eq_nil_of_length_eq_zero (by omega)
    subst e0
    cases ad with
    | none =>
      rw [run_convert_bytes_string w _ _ _ none _ _ Tryd.underlying23 Tryd.underlying5 Tryd.underlying9]
      simp [Conv.bytesToString, Sem.run_pure]
      rfl
    | some a =>
      exact run_convert_bytes_back w 23 9 5 a cap [] Tryd.underlying23 Tryd.underlying5 Tryd.underlying9 (fun j hj => by simp at hj)
theorem bytesRow_cells (l : List UInt8) (c j : Nat) (hj : j < l.length) : (bytesRow (strB l) c)[j]? = (shB.flat l)[j]? := by
  have := bytesRow_at (strB l) c j (by simpa [strB] using hj)
  rw [this, flat_byte, List.getElem?_map, List.getElem?_eq_getElem hj]
  rfl
/-- '[]byte(s)': a new block. -/
theorem conv_back (w : World) (l : List UInt8) : ∃ c w', (convert 9 23 (.string (strB l))).run Tryd.prog w = .ok (.slice (some ⟨w.heap.size, 0, none⟩) l.length c) w' ∧ shB.At w' (some ⟨w.heap.size, 0, none⟩) c l ∧ Below w.heap.size w w' ∧ w'.heap.size = w.heap.size + 1 := by
  have h := run_bytes_of_string (P := Tryd.prog) w 9 23 5 (strB l) Tryd.underlying9 Tryd.underlying23 Tryd.underlying5
  rw [strB_size] at h
  refine ⟨_, _, h, ⟨fun e => (by cases e), fun h0 => ⟨w.heap.size, 0, rfl, by simp, fun k hk => ?_⟩⟩, ((Below.refl _ _).drew).alloc (Nat.le_refl _) _, by simp⟩
  have hs : shB.size = 1 := rfl
  rw [hs, Nat.mul_one] at hk
  rw [Nat.zero_add]
  exact (World.cell?_alloc_mark w.drew _ _ _ k).trans (bytesRow_cells l _ k hk)
theorem byte_lit (X : World) (b : UInt8) (cap : Nat) : shB.At (X.alloc (.cells #[.int .u8 (ub b)] 5)) (some ⟨X.heap.size, 0, none⟩) cap [b] :=
  Shape.At.lit (S := shB) [b] (heap_alloc_new X _)
end Go.Proofs.YtomgifdnnfbpnaaDoor
