/- corebellkeep.alive17. -/
import Derived.Test.YtomgifdnnfbpnaaDoorTyH
import Derived.Lib.SlBytesConst
namespace Go.Proofs.YtomgifdnnfbpnaaDoor
open Go.RowKit

def alKs : List UInt8 := [97, 98, 32, 8, 99, 23, 100, 101, 10, 120, 4, 121, 122]
def alS : StQ := ⟨[[100, 101, 10], [120]], [121, 122]⟩
theorem al_type : typeQ newQ alKs = alS := rfl
theorem alType {b : Nat} (w : World) (HA : Hid (shB.At w (some ⟨b, 0, none⟩) 13 alKs)) : Calls Tryd.prog 16 #[.slice (some ⟨b, 0, none⟩) 13 13] w (TypeOut w 2 2 alS) :=
  type_W w HA (Lib.hid rfl) (by decide) alS (Lib.hid al_type) 2 2 (Lib.hid rfl) (Lib.hid rfl)
theorem al_res : resR alS 2 = (⟨[[10], [120]], [121, 122]⟩, [100, 101], 0) := rfl
theorem alRead {la ea : Option Addr} {lc ec : Nat} (w : World) (HL : Hid (LnsAt w la lc alS.lines)) (HE : Hid (shB.At w ea ec alS.edit)) : Calls Tryd.prog 11 #[.agg #[.slice la 2 lc, .slice ea 2 ec], .int .i64 2] w (ReadOut w 2 2 2 ⟨[[10], [120]], [121, 122]⟩ [100, 101] 0) := by
  have h := read_W (n := 2) (m := 2) (s := alS) w HL (Lib.hid rfl) HE (Lib.hid rfl) 2
  unfold ReadAll at h
  rw [al_res] at h
  exact h
theorem at_lit_fr {α : Type} {S : Shape α} {w : World} {b T cap : Nat} {fr : Nat × Nat} (l : List α) (hh : w.heap[b]? = some (.cells (S.flat l).toArray T fr)) : S.At w (some ⟨b, 0, none⟩) cap l :=
  ⟨fun e => (by cases e), fun _ => ⟨b, 0, rfl, (Array.getElem?_eq_some_iff.1 hh).1, fun k _ => by
    rw [cell_of_row w b _ _ _ _ hh, Nat.zero_add, List.getElem?_toArray]⟩⟩
set_option maxHeartbeats 2000000 in
set_option maxRecDepth 100000 in
theorem alive17_N (w : World) : Calls Tryd.prog 18 #[] w fun e w' => e = .returned (.bool true) ∧ Below w.heap.size w w' := by
  have B0 := Lib.hid (below_alloc w (.cells (shB.flat alKs).toArray 5 (13, 14)))
  have HO : Hid (shB.At (w.alloc (.cells (shB.flat alKs).toArray 5 (13, 14))) (some ⟨w.heap.size, 0, none⟩) 13 alKs) := Lib.hid (at_lit_fr alKs (heap_alloc_new w _))
  have cv := Lib.run_convert_bytes_const (P := Tryd.prog) w 23 5 (shB.flat alKs).toArray 13 13 Tryd.underlying23 Tryd.underlying5
  have eT : (shB.flat alKs).toArray = #[.int .u8 97, .int .u8 98, .int .u8 32, .int .u8 8, .int .u8 99, .int .u8 23, .int .u8 100, .int .u8 101, .int .u8 10, .int .u8 120, .int .u8 4, .int .u8 121, .int .u8 122] := rfl
  rw [eT] at B0 HO cv
  rw [show (#[.int .u8 97, .int .u8 98, .int .u8 32, .int .u8 8, .int .u8 99, .int .u8 23, .int .u8 100, .int .u8 101, .int .u8 10, .int .u8 120, .int .u8 4, .int .u8 121, .int .u8 122] : Array Value).size = 13 from rfl] at cv
  have sl : ∀ l, (strB l).toList = l := strB_list
  go_enter Tryd.func18, Tryd.ntmps18
  go_wp2_with (first
    | (go_at_call 16; (with_reducible refine (alType _ HO).mono ?_); rintro e w1 ⟨la, lc, ea, ec, rfl, h1, h2, hb⟩; have bl := below_alloc w1 (.cells #[.slice la 2 lc, .slice ea 2 ec] 25); have A1 := Lib.hid (h1.step bl); have A2 := Lib.hid (h2.step bl); have B1 := Lib.hid (pstep (pstep B0.out hb) bl); have D1 := Lib.hid (heap_alloc_new w1 (.cells #[.slice la 2 lc, .slice ea 2 ec] 25)); clear h1 h2 hb bl)
    | (go_at_call 11; (with_reducible refine (alRead _ A1 A2).mono ?_); rintro e w2 ⟨xa, xc, ya, yc, ra, rc, rfl, h1, h2, h3, hb⟩; have T1 := A1.out.step hb; have T2 := A2.out.step hb; have D2 := heap_step D1.out hb; have G2 := pair_at D2; have g2 := heap_lt D2; have B2 := Lib.hid (pstep B1.out hb); obtain ⟨b1, o1, a1, d1, rfl, hb1, hc1, q1⟩ := at_line T1 (k := 0) (l := [100, 101, 10]) rfl; obtain ⟨b2, o2, a2, d2, eqa, hb2, hc2, q2⟩ := at_line T1 (k := 1) (l := [120]) rfl; cases eqa; obtain ⟨b3, o3, a3, d3, rfl, hb3, hc3, q3⟩ := at_line h1 (k := 0) (l := [10]) rfl; rw [Nat.add_zero] at hc1 hc3; have c1 := (fun A => conv_at (n := 3) (q1.step (below_alloc w2 A)) rfl); have c2 := (fun A => conv_at (n := 1) (q2.step (below_alloc w2 A)) rfl); have c3 := (fun A => conv_at (n := 1) (q3.step (below_alloc w2 A)) rfl); have c4 := (fun A => conv_at (n := 2) (T2.step (below_alloc w2 A)) rfl); have c5 := (fun A => conv_at (n := 2) (h3.step (below_alloc w2 A)) rfl); simp only [List.length_cons, List.length_nil] at hc1 hc2 hc3; clear D2 hb T1 T2 h1 h2 h3 q1 q2 q3)
    | fail)
  go_ret
  exact ⟨rfl, pstep B2.out (below_alloc _ _)⟩
end Go.Proofs.YtomgifdnnfbpnaaDoor
