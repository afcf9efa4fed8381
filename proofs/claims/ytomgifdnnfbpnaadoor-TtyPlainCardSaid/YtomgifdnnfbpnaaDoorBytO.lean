/- Arguments of bytes: a byte, a slice of bytes, a slice of slices of bytes. Only the types of bytes in sight. -/
import Derived.Test.YtomgifdnnfbpnaaDoorLns
import Derived.Test.YtomgifdnnfbpnaaDoorArg
namespace Go.Proofs.YtomgifdnnfbpnaaDoor
open Go.ChangeShapes Go.WideShapes Go.ChangeAt Go.RowKit Go.Deep

theorem cellsByte0 : Tryd.prog.cellsOf 5 = 1 := by kernel_rfl
theorem cellsBytes0 : Tryd.prog.cellsOf 23 = 1 := by kernel_rfl
theorem byte_val0 {n : Int} (h : (Lit.int .u8 n).wf = true) : ∃ b : UInt8, n = ub b := by
  have h1 : 0 ≤ n ∧ n ≤ 255 := by
    simp only [Lit.wf, Bool.and_eq_true, decide_eq_true_eq] at h
    exact h
  refine ⟨UInt8.ofNat n.toNat, ?_⟩
  unfold ub
  rw [UInt8.toNat_ofNat']
  omega
/-- Heads that read as something. -/
abbrev HdW (W : World) := {h : Hd // ∃ l, HdAt W h l}
def shLw (W : World) : Shape (HdW W) := ⟨1, fun h => shL.enc h.1, fun _ => rfl, fun h u hu => shL.one h.1 u hu, by decide⟩
instance (W : World) : Inhabited (HdW W) := ⟨⟨(none, 0, 0), [], ⟨rfl, Shape.At.nil W⟩⟩⟩
theorem flat_lw (W : World) (l : List (HdW W)) : shL.flat (l.map (·.1)) = (shLw W).flat l := by
  unfold Shape.flat
  rw [List.flatMap_map]
  rfl
theorem at_lw {W : World} {ad : Option Addr} {cap : Nat} {l : List (HdW W)} (h : (shLw W).At W ad cap l) : shL.At W ad cap (l.map (·.1)) := by
  refine ⟨fun e => ?_, fun h0 => ?_⟩
  · obtain ⟨h1, h2⟩ := h.1 e
    exact ⟨h1, by rw [h2]; rfl⟩
  · rw [List.length_map] at h0
    obtain ⟨b, off, e, hb, hc⟩ := h.2 h0
    refine ⟨b, off, e, hb, fun k hk => ?_⟩
    rw [List.length_map] at hk
    rw [flat_lw]
    exact hc k hk
theorem lin_lw (W : World) : ∀ l : List (HdW W), ∃ ls, Lin W (l.map (·.1)) ls
  | [] => ⟨[], Lin.nil W⟩
  | h :: r => by
    obtain ⟨ls, h1⟩ := lin_lw W r
    obtain ⟨l, h2⟩ := h.2
    exact ⟨[l] ++ ls, Lin.app (Lin.one h2) h1⟩
section
variable {H : Type} {enc : TypeId × Value → H} {W : World}
theorem byte_of0 {base : Nat} {sp : Nat → Bool} {hd : Bool} (n : Nat) (cs : List Value) (y : DataW H × List MemPlace) (_ : cs.length = 1) (h : DataW.trod enc Tryd.prog W base sp hd n 5 cs = some y) : ∃ b : UInt8, cs = shB.enc b := by
  obtain ⟨x0, e0, _, hw⟩ := DataW.trod_int (cs := cs) (x := y) Tryd.underlying5 h
  obtain ⟨b, rfl⟩ := byte_val0 hw
  exact ⟨b, e0⟩
theorem bytes_of0 {base : Nat} {sp : Nat → Bool} {hd : Bool} {n : Nat} {c : Value} {y : DataW H × List MemPlace} (h : DataW.trod enc Tryd.prog W base sp hd n 23 [c] = some y) : ∃ (ad : Option Addr) (cap : Nat) (l : List UInt8), c = .slice ad l.length cap ∧ shB.At W ad cap l := by
  obtain ⟨ad, n', cap, rfl⟩ : ∃ ad n cap, c = .slice ad n cap := by
    rcases open_slice Tryd.underlying23 h with ⟨hc, _⟩ | ⟨a, l, c', m, k, D, Pl, hcs, _⟩
    · simp only [List.cons.injEq, and_true] at hc; exact ⟨_, _, _, hc⟩
    · simp only [List.cons.injEq, and_true] at hcs; exact ⟨_, _, _, hcs⟩
  obtain ⟨ad', cap', l, hv, hat, _⟩ := (slice_reads shB Tryd.underlying23 cellsByte0 (fun n cs y => byte_of0 n cs y) h).ex
  exact ⟨ad', cap', l, hv, hat⟩
theorem head_of0 {base : Nat} {sp : Nat → Bool} {hd : Bool} (n : Nat) (cs : List Value) (y : DataW H × List MemPlace) (hl : cs.length = 1) (h : DataW.trod enc Tryd.prog W base sp hd n 23 cs = some y) : ∃ q : HdW W, cs = (shLw W).enc q := by
  obtain ⟨c, rfl⟩ : ∃ c, cs = [c] := by
    match cs, hl with
    | [c], _ => exact ⟨c, rfl⟩
  obtain ⟨ad, cap, l, rfl, hat⟩ := bytes_of0 h
  exact ⟨⟨(ad, l.length, cap), l, ⟨rfl, hat⟩⟩, rfl⟩
/-- A slice of slices, one cell of a struct or an argument. -/
theorem lines_of0 {base : Nat} {sp : Nat → Bool} {hd : Bool} {n : Nat} {c : Value} {y : DataW H × List MemPlace} (h : DataW.trod enc Tryd.prog W base sp hd n 22 [c] = some y) : ∃ (ad : Option Addr) (cap : Nat) (ls : List (List UInt8)), c = .slice ad ls.length cap ∧ LnsAt W ad cap ls ∧ ls.length ≤ 9223372036854775807 ∧ ls.length ≤ cap := by
  obtain ⟨ad, n', cap, rfl⟩ : ∃ ad n cap, c = .slice ad n cap := by
    rcases open_slice Tryd.underlying22 h with ⟨hc, _⟩ | ⟨a, l, c', m, k, D, Pl, hcs, _⟩
    · simp only [List.cons.injEq, and_true] at hc; exact ⟨_, _, _, hc⟩
    · simp only [List.cons.injEq, and_true] at hcs; exact ⟨_, _, _, hcs⟩
  obtain ⟨ad', cap', l, hv, hat, h63, hcap⟩ := (slice_reads (shLw W) Tryd.underlying22 cellsBytes0 (fun n cs y => head_of0 n cs y) h).ex
  obtain ⟨ls, h2⟩ := lin_lw W l
  have hn : l.length = ls.length := by have := h2.n; rwa [List.length_map] at this
  exact ⟨ad', cap', ls, by rw [hv, hn], ⟨_, at_lw hat, h2⟩, by rw [← hn]; exact h63, by rw [← hn]; exact hcap⟩
/-- A byte. -/
def ArgByte (_ : World) (v : Value) : Prop := ∃ b : UInt8, v = .int .u8 (ub b)
theorem arg_byte {base : Nat} {v : Value} {dt : DataW H} {p : List MemPlace} (hv : Value.okWide Tryd.prog W .any base 5 v) (h : DataW.Trod enc Tryd.prog W 0 (fun _ => true) true 5 v dt p) : ArgByte W v := by
  obtain ⟨a, rfl, _, _, hw⟩ := open_int Tryd.underlying5 hv h
  obtain ⟨b, rfl⟩ := byte_val0 hw
  exact ⟨b, rfl⟩
/-- Bytes. -/
def ArgBytes (W : World) (v : Value) : Prop := ∃ (ad : Option Addr) (cap : Nat) (l : List UInt8), v = .slice ad l.length cap ∧ shB.At W ad cap l ∧ l.length ≤ 9223372036854775807 ∧ l.length ≤ cap
theorem arg_bytes {base : Nat} {v : Value} {dt : DataW H} {p : List MemPlace} (hv : Value.okWide Tryd.prog W .any base 23 v) (h : DataW.Trod enc Tryd.prog W 0 (fun _ => true) true 23 v dt p) :
    ArgBytes W v ∧ (lenOf v = 0 ∨ ∃ el sp, dt = .slice el sp ∧ el.length = lenOf v) := by
  obtain ⟨ad, len, cap, rfl⟩ := okWide_slice Tryd.underlying23 hv
  obtain ⟨fuel, hf⟩ := h
  have r := slice_reads shB Tryd.underlying23 cellsByte0 (fun n cs y => byte_of0 n cs y) hf
  exact ⟨r.ex, r.len⟩
/-- Rows of bytes. -/
def ArgLns (W : World) (v : Value) : Prop := ∃ (ad : Option Addr) (cap : Nat) (ls : List (List UInt8)), v = .slice ad ls.length cap ∧ LnsAt W ad cap ls ∧ ls.length ≤ 9223372036854775807 ∧ ls.length ≤ cap
theorem arg_lns {base : Nat} {v : Value} {dt : DataW H} {p : List MemPlace} (hv : Value.okWide Tryd.prog W .any base 22 v) (h : DataW.Trod enc Tryd.prog W 0 (fun _ => true) true 22 v dt p) :
    ArgLns W v ∧ (lenOf v = 0 ∨ ∃ el sp, dt = .slice el sp ∧ el.length = lenOf v) := by
  obtain ⟨ad, len, cap, rfl⟩ := okWide_slice Tryd.underlying22 hv
  obtain ⟨fuel, hf⟩ := h
  have r := slice_reads (shLw W) Tryd.underlying22 cellsBytes0 (fun n cs y => head_of0 n cs y) hf
  obtain ⟨ad', cap', ls, e, hat⟩ := lines_of0 (by simpa [Value.cells] using hf)
  exact ⟨⟨ad', cap', ls, e, hat⟩, r.len⟩
end
end Go.Proofs.YtomgifdnnfbpnaaDoor
