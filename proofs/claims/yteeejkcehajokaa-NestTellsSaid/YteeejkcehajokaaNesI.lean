/- corebellref.GStep where a frame is popped. -/
import Derived.Test.YteeejkcehajokaaNesH
namespace Go.Proofs.Yteeejkcehajokaa
open Go.RowKit

set_option maxHeartbeats 2000000 in
set_option maxRecDepth 100000 in
theorem g_pop2 {ad : Option Addr} {cap n : Nat} {l : List FrT} (on : Bool) (w : World) (HA : Hid (shF.At w ad cap l)) (hm : Hid (l.length = n + 1)) (hn : n ≤ 400) (x : Bool) (hf : Hid (l[n]? = some ⟨x, false⟩)) (hcap : n + 1 ≤ cap) (ho : Hid (RtN ⟨on, l⟩)) :
    Calls Try.prog 8 #[.agg #[.bool on, .slice ad (n + 1) cap], .int .i64 2] w fun e w' => ∃ ra rc, e = .returned (.tuple #[.agg #[.bool x, .slice ra n rc], .int .i64 0]) ∧ w'.ownsRow w.heap.size 43 2 (.slice ra n rc) n (shF.flat (l.take n)) ∧ Below w.heap.size w w' := by
  have S0 := Lib.hid (sc_new w on (.slice ad (n + 1) cap))
  have HA0 := Lib.hid (HA.out.step S0.out.b)
  obtain ⟨i0, hi, hz0, hz1, hz2⟩ := info_parts' info_frame
  obtain ⟨b, off, rfl, hb, c0, c1⟩ := at_fr HA.out hf.out
  simp only at c0 c1
  have e1 : ((n : Int) + 1 == 0) = false := by simp; omega
  have e2 : (n : Int) + 1 - 1 = (n : Int) := by omega
  have e3 : ¬ ((n : Int) + 1 = 0) := by omega
  have hnc : n < n + 1 := by omega
  have hcap2 : n ≤ cap := by omega
  have hI1 : (0 : Int) ≤ (n : Int) := by omega
  have hI2 : (n : Int) ≤ (cap : Int) := by omega
  have hwr : IntKind.i64.wrap (n : Int) = (n : Int) := by rw [IntKind.wrap_i64]; omega
  go_enter Try.func8, Try.ntmps8
  go_upto_region 18 with (first
    | (go_at_call 12; (with_reducible refine (gright_N on _ HA0 hm (by omega)).mono ?_); rintro e w1 ⟨hr, hbb⟩; have he := retB_eq hr (b := true) ⟨fun _ => ho.out, fun _ => rfl⟩; subst he; have S1 := Lib.hid (S0.out.step hbb); have HA1 := Lib.hid (HA0.out.step hbb); have G1 := S1.out.cells; have Z1 := heap_lt S1.out.z; have Z0 := heap_lt S1.out.r; have D1 := (Lib.hid ((S1.out.b.cell (p := ⟨b, off + n * 2, none⟩) (by assumption)).trans c0)); have D2 := (Lib.hid ((S1.out.b.cell (p := ⟨b, off + n * 2 + 1, none⟩) (by assumption)).trans c1)); have d1 := D1.out; have d2 := D2.out; have hb1 : b < w1.heap.size := Nat.lt_of_lt_of_le (by assumption) S1.out.b.size; clear hr)
    | fail)
  have S2 := Lib.hid (S1.out.step (below_alloc w1 (.cells #[.bool x, .bool false] 43)))
  have L2 := Lib.hid (heap_alloc_new w1 (.cells #[.bool x, .bool false] 43))
  have HA2 := Lib.hid (HA1.out.step (below_alloc w1 (.cells #[.bool x, .bool false] 43)))
  have N1 := Lib.hid (rfl : w1.heap.size = w1.heap.size)
  have HBW := Lib.hid (heap_lt S1.out.z)
  have HSZ := Lib.hid S1.out.b.size
  clear S0 HA0 S1 HA1 D1 D2 d1 d2 hb1 G1 Z1 Z0 c0 c1 hb
  generalize w1.alloc (.cells #[.bool x, .bool false] 43) = w2 at S2 L2 HA2 ⊢
  generalize w1.heap.size = B at L2 HBW HSZ ⊢
  have HTK : Hid ((l.take n).length = n) := Lib.hid (by rw [List.length_take, hm.out]; omega)
  have PS : Sq w on (.slice (some ⟨b, off, none⟩) (n + 1) cap) B x false w2 := ⟨S2.out.sp, L2.out⟩
  have PSd := PS.drew
  have XA : Hid ((w2.alloc (.cells #[] 43)).drew.ownsRow w.heap.size 43 2 (.slice (some ⟨w2.heap.size, 0, none⟩) 0 0) 0 []) := Lib.hid (own_new w2 _ _ S2.out.b.size)
  have HBN : Hid (¬ B = w.heap.size + 1) := Lib.hid (by have := HBW.out; omega)
  go_region_held3 (fun w' => Sq w on (.slice (some ⟨b, off, none⟩) (n + 1) cap) B x false w' ∧ (w'.cell? ⟨w.heap.size, 0, none⟩ = some (.bool on) ∧ w'.cell? ⟨w.heap.size, 1, none⟩ = some (.slice (some ⟨b, off, none⟩) (n + 1) cap)) ∧ w'.cell? ⟨B, 0, none⟩ = some (.bool x) ∧ w'.cell? ⟨B, 1, none⟩ = some (.bool false))
    (first | (refine Sq.all ?_; with_reducible assumption) | (refine Sq.all (Sq.drew (Sq.alloc ?_ _)); with_reducible assumption) | (refine Sq.all (Sq.set2 HBN ?_ _ _); with_reducible assumption))
    (first
    | (refine step_append_0 shF rfl _ _ 22 rfl w.heap.size 43 i0 _ 2 Try.underlying22 hi hz0 hz1 hz2 rfl (.slice (some ⟨w2.heap.size, 0, none⟩) 0 0) (l.take n) rfl XA.out (some ⟨b, off, none⟩) n cap rfl HTK ((HA2.out.take n).step (below_alloc w2 (.cells #[] 43)).drew) (by unfold maxLen; omega) (by omega) (by have := S2.out.b.size; simp; omega) ?_; intro ra rc w4 own4 grow4; have S4 := Lib.hid (Sc.grown (S2.out.step (below_alloc w2 (.cells #[] 43)).drew) XA.out (Nat.le_refl _) grow4); have O4 := Lib.hid own4; have F4 := Lib.hid ((grow4.block B (by have := heap_lt L2.out; simp; omega) (fun e => by have := heap_lt L2.out; simp [Value.ownBlock] at e; omega)).trans (heap_step L2.out (below_alloc w2 (.cells #[] 43)).drew)); clear own4 grow4; have TT : Sq w on (.slice (some ⟨b, off, none⟩) (n + 1) cap) B x false w4 := ⟨S4.out.sp, F4.out⟩; have G4 := S4.out.cells)
    | fail)
  all_goals go_wp2_with fail
  all_goals refine bodyPost_ret (results_row_tmp1 rfl _ _ (w.heap.size + 1) 24 #[.bool x, .slice ra n rc] (0, 0) _ rfl (res_stored S4.out.z) Try.underlying24 rfl size_core) rfl ?_
  all_goals have n1 := own_ne O4.out S4.out.z (by decide)
  all_goals exact ⟨_, _, rfl, own_set (own_set O4.out n1 _) n1 _, set2_below _ _ S4.out.b (by omega)⟩
set_option maxHeartbeats 2000000 in
set_option maxRecDepth 100000 in
theorem g_pop4 {ad : Option Addr} {cap n : Nat} {l : List FrT} (on : Bool) (w : World) (HA : Hid (shF.At w ad cap l)) (hm : Hid (l.length = n + 1)) (hn : n ≤ 400) (x : Bool) (hf : Hid (l[n]? = some ⟨x, true⟩)) (hcap : n + 1 ≤ cap) (ho : Hid (RtN ⟨on, l⟩)) :
    Calls Try.prog 8 #[.agg #[.bool on, .slice ad (n + 1) cap], .int .i64 4] w fun e w' => ∃ ra rc, e = .returned (.tuple #[.agg #[.bool x, .slice ra n rc], .int .i64 0]) ∧ w'.ownsRow w.heap.size 43 2 (.slice ra n rc) n (shF.flat (l.take n)) ∧ Below w.heap.size w w' := by
  have S0 := Lib.hid (sc_new w on (.slice ad (n + 1) cap))
  have HA0 := Lib.hid (HA.out.step S0.out.b)
  obtain ⟨i0, hi, hz0, hz1, hz2⟩ := info_parts' info_frame
  obtain ⟨b, off, rfl, hb, c0, c1⟩ := at_fr HA.out hf.out
  simp only at c0 c1
  have e1 : ((n : Int) + 1 == 0) = false := by simp; omega
  have e2 : (n : Int) + 1 - 1 = (n : Int) := by omega
  have e3 : ¬ ((n : Int) + 1 = 0) := by omega
  have hnc : n < n + 1 := by omega
  have hcap2 : n ≤ cap := by omega
  have hI1 : (0 : Int) ≤ (n : Int) := by omega
  have hI2 : (n : Int) ≤ (cap : Int) := by omega
  have hwr : IntKind.i64.wrap (n : Int) = (n : Int) := by rw [IntKind.wrap_i64]; omega
  go_enter Try.func8, Try.ntmps8
  go_upto_region 18 with (first
    | (go_at_call 12; (with_reducible refine (gright_N on _ HA0 hm (by omega)).mono ?_); rintro e w1 ⟨hr, hbb⟩; have he := retB_eq hr (b := true) ⟨fun _ => ho.out, fun _ => rfl⟩; subst he; have S1 := Lib.hid (S0.out.step hbb); have HA1 := Lib.hid (HA0.out.step hbb); have G1 := S1.out.cells; have Z1 := heap_lt S1.out.z; have Z0 := heap_lt S1.out.r; have D1 := (Lib.hid ((S1.out.b.cell (p := ⟨b, off + n * 2, none⟩) (by assumption)).trans c0)); have D2 := (Lib.hid ((S1.out.b.cell (p := ⟨b, off + n * 2 + 1, none⟩) (by assumption)).trans c1)); have d1 := D1.out; have d2 := D2.out; have hb1 : b < w1.heap.size := Nat.lt_of_lt_of_le (by assumption) S1.out.b.size; clear hr)
    | fail)
  have S2 := Lib.hid (S1.out.step (below_alloc w1 (.cells #[.bool x, .bool true] 43)))
  have L2 := Lib.hid (heap_alloc_new w1 (.cells #[.bool x, .bool true] 43))
  have HA2 := Lib.hid (HA1.out.step (below_alloc w1 (.cells #[.bool x, .bool true] 43)))
  have N1 := Lib.hid (rfl : w1.heap.size = w1.heap.size)
  have HBW := Lib.hid (heap_lt S1.out.z)
  have HSZ := Lib.hid S1.out.b.size
  clear S0 HA0 S1 HA1 D1 D2 d1 d2 hb1 G1 Z1 Z0 c0 c1 hb
  generalize w1.alloc (.cells #[.bool x, .bool true] 43) = w2 at S2 L2 HA2 ⊢
  generalize w1.heap.size = B at L2 HBW HSZ ⊢
  have HTK : Hid ((l.take n).length = n) := Lib.hid (by rw [List.length_take, hm.out]; omega)
  have PS : Sq w on (.slice (some ⟨b, off, none⟩) (n + 1) cap) B x true w2 := ⟨S2.out.sp, L2.out⟩
  have PSd := PS.drew
  have XA : Hid ((w2.alloc (.cells #[] 43)).drew.ownsRow w.heap.size 43 2 (.slice (some ⟨w2.heap.size, 0, none⟩) 0 0) 0 []) := Lib.hid (own_new w2 _ _ S2.out.b.size)
  have HBN : Hid (¬ B = w.heap.size + 1) := Lib.hid (by have := HBW.out; omega)
  go_region_held3 (fun w' => Sq w on (.slice (some ⟨b, off, none⟩) (n + 1) cap) B x true w' ∧ (w'.cell? ⟨w.heap.size, 0, none⟩ = some (.bool on) ∧ w'.cell? ⟨w.heap.size, 1, none⟩ = some (.slice (some ⟨b, off, none⟩) (n + 1) cap)) ∧ w'.cell? ⟨B, 0, none⟩ = some (.bool x) ∧ w'.cell? ⟨B, 1, none⟩ = some (.bool true))
    (first | (refine Sq.all ?_; with_reducible assumption) | (refine Sq.all (Sq.drew (Sq.alloc ?_ _)); with_reducible assumption) | (refine Sq.all (Sq.set2 HBN ?_ _ _); with_reducible assumption))
    (first
    | (refine step_append_0 shF rfl _ _ 22 rfl w.heap.size 43 i0 _ 2 Try.underlying22 hi hz0 hz1 hz2 rfl (.slice (some ⟨w2.heap.size, 0, none⟩) 0 0) (l.take n) rfl XA.out (some ⟨b, off, none⟩) n cap rfl HTK ((HA2.out.take n).step (below_alloc w2 (.cells #[] 43)).drew) (by unfold maxLen; omega) (by omega) (by have := S2.out.b.size; simp; omega) ?_; intro ra rc w4 own4 grow4; have S4 := Lib.hid (Sc.grown (S2.out.step (below_alloc w2 (.cells #[] 43)).drew) XA.out (Nat.le_refl _) grow4); have O4 := Lib.hid own4; have F4 := Lib.hid ((grow4.block B (by have := heap_lt L2.out; simp; omega) (fun e => by have := heap_lt L2.out; simp [Value.ownBlock] at e; omega)).trans (heap_step L2.out (below_alloc w2 (.cells #[] 43)).drew)); clear own4 grow4; have TT : Sq w on (.slice (some ⟨b, off, none⟩) (n + 1) cap) B x true w4 := ⟨S4.out.sp, F4.out⟩; have G4 := S4.out.cells)
    | fail)
  all_goals go_wp2_with fail
  all_goals refine bodyPost_ret (results_row_tmp1 rfl _ _ (w.heap.size + 1) 24 #[.bool x, .slice ra n rc] (0, 0) _ rfl (res_stored S4.out.z) Try.underlying24 rfl size_core) rfl ?_
  all_goals have n1 := own_ne O4.out S4.out.z (by decide)
  all_goals exact ⟨_, _, rfl, own_set (own_set O4.out n1 _) n1 _, set2_below _ _ S4.out.b (by omega)⟩
end Go.Proofs.Yteeejkcehajokaa
