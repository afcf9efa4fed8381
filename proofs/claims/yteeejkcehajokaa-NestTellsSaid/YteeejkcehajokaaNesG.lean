/- The walk of corebellref.GStep. -/
import Derived.Test.YteeejkcehajokaaNesD
import Derived.Deep.RegionLaw
import Derived.Deep.Cut
namespace Go.Proofs.Yteeejkcehajokaa
open Go.RowKit

set_option maxHeartbeats 2000000 in
set_option maxRecDepth 100000 in
theorem g_form {ad : Option Addr} {cap n : Nat} {l : List FrT} (on : Bool) (kind : Int) (w : World) (HA : Hid (shF.At w ad cap l)) (hm : Hid (l.length = n)) (hn : n ≤ 9223372036854775807) (ho : Hid (¬ RtN ⟨on, l⟩)) :
    Calls Try.prog 8 #[.agg #[.bool on, .slice ad n cap], .int .i64 kind] w fun e w' => e = .returned (.tuple #[.agg #[.bool false, .slice none 0 0], .int .i64 1]) ∧ Below w.heap.size w w' := by
  have S0 := Lib.hid (sc_new w on (.slice ad n cap))
  have HA0 := Lib.hid (HA.out.step S0.out.b)
  obtain ⟨t1, ht1⟩ : ∃ t, (kind == 1) = t := ⟨_, rfl⟩
  obtain ⟨t3, ht3⟩ : ∃ t, (kind == 3) = t := ⟨_, rfl⟩
  cases t1
  all_goals cases t3
  all_goals go_enter Try.func8, Try.ntmps8
  all_goals go_wp2_with (first
    | (go_at_call 12; (with_reducible refine (gright_N on _ HA0 hm (by omega)).mono ?_); rintro e w1 ⟨hr, hb⟩; have he := retB_eq hr (b := false) ⟨(fun h => by cases h), fun h => absurd h ho.out⟩; subst he; have S1 := Lib.hid (S0.out.step hb); have G1 := S1.out.cells; have Z1 := heap_lt S1.out.z; have Z0 := heap_lt S1.out.r; clear hb hr)
    | fail)
  all_goals refine bodyPost_ret (results_row_tmp1 rfl _ _ (w.heap.size + 1) 24 #[.bool false, .slice none 0 0] (0, 0) _ rfl (res_stored S1.out.z) Try.underlying24 rfl size_core) rfl ⟨rfl, set2_below _ _ S1.out.b (by omega)⟩
set_option maxHeartbeats 2000000 in
set_option maxRecDepth 100000 in
theorem g_low {ad : Option Addr} {cap n : Nat} {l : List FrT} (on : Bool) (kind : Int) (w : World) (HA : Hid (shF.At w ad cap l)) (hm : Hid (l.length = n)) (hn : n ≤ 400) (ho : Hid (RtN ⟨on, l⟩)) (hk : kind < 1) :
    Calls Try.prog 8 #[.agg #[.bool on, .slice ad n cap], .int .i64 kind] w fun e w' => e = .returned (.tuple #[.agg #[.bool false, .slice none 0 0], .int .i64 5]) ∧ Below w.heap.size w w' := by
  have S0 := Lib.hid (sc_new w on (.slice ad n cap))
  have HA0 := Lib.hid (HA.out.step S0.out.b)
  have q1 : (kind == 1) = false := by simp; omega
  have q3 : (kind == 3) = false := by simp; omega
  go_enter Try.func8, Try.ntmps8
  go_wp2_with (first
    | (go_at_call 12; (with_reducible refine (gright_N on _ HA0 hm (by omega)).mono ?_); rintro e w1 ⟨hr, hb⟩; have he := retB_eq hr (b := true) ⟨fun _ => ho.out, fun _ => rfl⟩; subst he; have S1 := Lib.hid (S0.out.step hb); have HA1 := Lib.hid (HA0.out.step hb); have G1 := S1.out.cells; have Z1 := heap_lt S1.out.z; have Z0 := heap_lt S1.out.r; clear hb hr)
    | fail)
  refine bodyPost_ret (results_row_tmp1 rfl _ _ (w.heap.size + 1) 24 #[.bool false, .slice none 0 0] (0, 0) _ rfl (res_stored S1.out.z) Try.underlying24 rfl size_core) rfl ⟨rfl, set2_below _ _ S1.out.b (by omega)⟩
set_option maxHeartbeats 2000000 in
set_option maxRecDepth 100000 in
theorem g_high {ad : Option Addr} {cap n : Nat} {l : List FrT} (on : Bool) (kind : Int) (w : World) (HA : Hid (shF.At w ad cap l)) (hm : Hid (l.length = n)) (hn : n ≤ 400) (ho : Hid (RtN ⟨on, l⟩)) (hk : 4 < kind) :
    Calls Try.prog 8 #[.agg #[.bool on, .slice ad n cap], .int .i64 kind] w fun e w' => e = .returned (.tuple #[.agg #[.bool false, .slice none 0 0], .int .i64 5]) ∧ Below w.heap.size w w' := by
  have S0 := Lib.hid (sc_new w on (.slice ad n cap))
  have HA0 := Lib.hid (HA.out.step S0.out.b)
  have q0 : ¬ kind < 1 := by omega
  have q1 : (kind == 1) = false := by simp; omega
  have q3 : (kind == 3) = false := by simp; omega
  go_enter Try.func8, Try.ntmps8
  go_wp2_with (first
    | (go_at_call 12; (with_reducible refine (gright_N on _ HA0 hm (by omega)).mono ?_); rintro e w1 ⟨hr, hb⟩; have he := retB_eq hr (b := true) ⟨fun _ => ho.out, fun _ => rfl⟩; subst he; have S1 := Lib.hid (S0.out.step hb); have HA1 := Lib.hid (HA0.out.step hb); have G1 := S1.out.cells; have Z1 := heap_lt S1.out.z; have Z0 := heap_lt S1.out.r; clear hb hr)
    | fail)
  refine bodyPost_ret (results_row_tmp1 rfl _ _ (w.heap.size + 1) 24 #[.bool false, .slice none 0 0] (0, 0) _ rfl (res_stored S1.out.z) Try.underlying24 rfl size_core) rfl ⟨rfl, set2_below _ _ S1.out.b (by omega)⟩
set_option maxHeartbeats 2000000 in
set_option maxRecDepth 100000 in
theorem g_full1 {ad : Option Addr} {cap n : Nat} {l : List FrT} (on : Bool) (w : World) (HA : Hid (shF.At w ad cap l)) (hm : Hid (l.length = n)) (hn : n ≤ 400) (ho : Hid (RtN ⟨on, l⟩)) (hk : n = 400) :
    Calls Try.prog 8 #[.agg #[.bool on, .slice ad n cap], .int .i64 1] w fun e w' => e = .returned (.tuple #[.agg #[.bool false, .slice none 0 0], .int .i64 4]) ∧ Below w.heap.size w w' := by
  have S0 := Lib.hid (sc_new w on (.slice ad n cap))
  have HA0 := Lib.hid (HA.out.step S0.out.b)
  subst hk
  go_enter Try.func8, Try.ntmps8
  go_wp2_with (first
    | (go_at_call 12; (with_reducible refine (gright_N on _ HA0 hm (by omega)).mono ?_); rintro e w1 ⟨hr, hb⟩; have he := retB_eq hr (b := true) ⟨fun _ => ho.out, fun _ => rfl⟩; subst he; have S1 := Lib.hid (S0.out.step hb); have HA1 := Lib.hid (HA0.out.step hb); have G1 := S1.out.cells; have Z1 := heap_lt S1.out.z; have Z0 := heap_lt S1.out.r; clear hb hr)
    | fail)
  refine bodyPost_ret (results_row_tmp1 rfl _ _ (w.heap.size + 1) 24 #[.bool false, .slice none 0 0] (0, 0) _ rfl (res_stored S1.out.z) Try.underlying24 rfl size_core) rfl ⟨rfl, set2_below _ _ S1.out.b (by omega)⟩
set_option maxHeartbeats 2000000 in
set_option maxRecDepth 100000 in
theorem g_full3 {ad : Option Addr} {cap n : Nat} {l : List FrT} (on : Bool) (w : World) (HA : Hid (shF.At w ad cap l)) (hm : Hid (l.length = n)) (hn : n ≤ 400) (ho : Hid (RtN ⟨on, l⟩)) (hk : n = 400) :
    Calls Try.prog 8 #[.agg #[.bool on, .slice ad n cap], .int .i64 3] w fun e w' => e = .returned (.tuple #[.agg #[.bool false, .slice none 0 0], .int .i64 4]) ∧ Below w.heap.size w w' := by
  have S0 := Lib.hid (sc_new w on (.slice ad n cap))
  have HA0 := Lib.hid (HA.out.step S0.out.b)
  subst hk
  go_enter Try.func8, Try.ntmps8
  go_wp2_with (first
    | (go_at_call 12; (with_reducible refine (gright_N on _ HA0 hm (by omega)).mono ?_); rintro e w1 ⟨hr, hb⟩; have he := retB_eq hr (b := true) ⟨fun _ => ho.out, fun _ => rfl⟩; subst he; have S1 := Lib.hid (S0.out.step hb); have HA1 := Lib.hid (HA0.out.step hb); have G1 := S1.out.cells; have Z1 := heap_lt S1.out.z; have Z0 := heap_lt S1.out.r; clear hb hr)
    | fail)
  refine bodyPost_ret (results_row_tmp1 rfl _ _ (w.heap.size + 1) 24 #[.bool false, .slice none 0 0] (0, 0) _ rfl (res_stored S1.out.z) Try.underlying24 rfl size_core) rfl ⟨rfl, set2_below _ _ S1.out.b (by omega)⟩
set_option maxHeartbeats 2000000 in
set_option maxRecDepth 100000 in
theorem g_again {ad : Option Addr} {cap n : Nat} {l : List FrT} (w : World) (HA : Hid (shF.At w ad cap l)) (hm : Hid (l.length = n)) (hn : n ≤ 400) (ho : Hid (RtN ⟨false, l⟩)) (hk : ¬ 400 ≤ n) :
    Calls Try.prog 8 #[.agg #[.bool false, .slice ad n cap], .int .i64 3] w fun e w' => e = .returned (.tuple #[.agg #[.bool false, .slice none 0 0], .int .i64 7]) ∧ Below w.heap.size w w' := by
  have S0 := Lib.hid (sc_new w false (.slice ad n cap))
  have HA0 := Lib.hid (HA.out.step S0.out.b)
  go_enter Try.func8, Try.ntmps8
  go_wp2_with (first
    | (go_at_call 12; (with_reducible refine (gright_N false _ HA0 hm (by omega)).mono ?_); rintro e w1 ⟨hr, hb⟩; have he := retB_eq hr (b := true) ⟨fun _ => ho.out, fun _ => rfl⟩; subst he; have S1 := Lib.hid (S0.out.step hb); have HA1 := Lib.hid (HA0.out.step hb); have G1 := S1.out.cells; have Z1 := heap_lt S1.out.z; have Z0 := heap_lt S1.out.r; clear hb hr)
    | fail)
  refine bodyPost_ret (results_row_tmp1 rfl _ _ (w.heap.size + 1) 24 #[.bool false, .slice none 0 0] (0, 0) _ rfl (res_stored S1.out.z) Try.underlying24 rfl size_core) rfl ⟨rfl, set2_below _ _ S1.out.b (by omega)⟩
set_option maxHeartbeats 2000000 in
set_option maxRecDepth 100000 in
theorem g_none2 {ad : Option Addr} {cap n : Nat} {l : List FrT} (on : Bool) (w : World) (HA : Hid (shF.At w ad cap l)) (hm : Hid (l.length = n)) (hn : n ≤ 400) (ho : Hid (RtN ⟨on, l⟩)) (hk : n = 0) :
    Calls Try.prog 8 #[.agg #[.bool on, .slice ad n cap], .int .i64 2] w fun e w' => e = .returned (.tuple #[.agg #[.bool false, .slice none 0 0], .int .i64 3]) ∧ Below w.heap.size w w' := by
  have S0 := Lib.hid (sc_new w on (.slice ad n cap))
  have HA0 := Lib.hid (HA.out.step S0.out.b)
  subst hk
  go_enter Try.func8, Try.ntmps8
  go_wp2_with (first
    | (go_at_call 12; (with_reducible refine (gright_N on _ HA0 hm (by omega)).mono ?_); rintro e w1 ⟨hr, hb⟩; have he := retB_eq hr (b := true) ⟨fun _ => ho.out, fun _ => rfl⟩; subst he; have S1 := Lib.hid (S0.out.step hb); have HA1 := Lib.hid (HA0.out.step hb); have G1 := S1.out.cells; have Z1 := heap_lt S1.out.z; have Z0 := heap_lt S1.out.r; clear hb hr)
    | fail)
  refine bodyPost_ret (results_row_tmp1 rfl _ _ (w.heap.size + 1) 24 #[.bool false, .slice none 0 0] (0, 0) _ rfl (res_stored S1.out.z) Try.underlying24 rfl size_core) rfl ⟨rfl, set2_below _ _ S1.out.b (by omega)⟩
set_option maxHeartbeats 2000000 in
set_option maxRecDepth 100000 in
theorem g_none4 {ad : Option Addr} {cap n : Nat} {l : List FrT} (on : Bool) (w : World) (HA : Hid (shF.At w ad cap l)) (hm : Hid (l.length = n)) (hn : n ≤ 400) (ho : Hid (RtN ⟨on, l⟩)) (hk : n = 0) :
    Calls Try.prog 8 #[.agg #[.bool on, .slice ad n cap], .int .i64 4] w fun e w' => e = .returned (.tuple #[.agg #[.bool false, .slice none 0 0], .int .i64 3]) ∧ Below w.heap.size w w' := by
  have S0 := Lib.hid (sc_new w on (.slice ad n cap))
  have HA0 := Lib.hid (HA.out.step S0.out.b)
  subst hk
  go_enter Try.func8, Try.ntmps8
  go_wp2_with (first
    | (go_at_call 12; (with_reducible refine (gright_N on _ HA0 hm (by omega)).mono ?_); rintro e w1 ⟨hr, hb⟩; have he := retB_eq hr (b := true) ⟨fun _ => ho.out, fun _ => rfl⟩; subst he; have S1 := Lib.hid (S0.out.step hb); have HA1 := Lib.hid (HA0.out.step hb); have G1 := S1.out.cells; have Z1 := heap_lt S1.out.z; have Z0 := heap_lt S1.out.r; clear hb hr)
    | fail)
  refine bodyPost_ret (results_row_tmp1 rfl _ _ (w.heap.size + 1) 24 #[.bool false, .slice none 0 0] (0, 0) _ rfl (res_stored S1.out.z) Try.underlying24 rfl size_core) rfl ⟨rfl, set2_below _ _ S1.out.b (by omega)⟩
set_option maxHeartbeats 2000000 in
set_option maxRecDepth 100000 in
theorem g_rank2 {ad : Option Addr} {cap n : Nat} {l : List FrT} (on : Bool) (w : World) (HA : Hid (shF.At w ad cap l)) (hm : Hid (l.length = n + 1)) (hn : n ≤ 400) (x : Bool) (hf : Hid (l[n]? = some ⟨x, true⟩)) (ho : Hid (RtN ⟨on, l⟩)) :
    Calls Try.prog 8 #[.agg #[.bool on, .slice ad (n + 1) cap], .int .i64 2] w fun e w' => e = .returned (.tuple #[.agg #[.bool false, .slice none 0 0], .int .i64 8]) ∧ Below w.heap.size w w' := by
  have S0 := Lib.hid (sc_new w on (.slice ad (n + 1) cap))
  have HA0 := Lib.hid (HA.out.step S0.out.b)
  obtain ⟨b, off, rfl, hb, c0, c1⟩ := at_fr HA.out hf.out
  simp only at c0 c1
  have e1 : ((n : Int) + 1 == 0) = false := by simp; omega
  have e2 : (n : Int) + 1 - 1 = (n : Int) := by omega
  have e3 : ¬ ((n : Int) + 1 = 0) := by omega
  have hnc : n < n + 1 := by omega
  go_enter Try.func8, Try.ntmps8
  go_wp2_with (first
    | (go_at_call 12; (with_reducible refine (gright_N on _ HA0 hm (by omega)).mono ?_); rintro e w1 ⟨hr, hbb⟩; have he := retB_eq hr (b := true) ⟨fun _ => ho.out, fun _ => rfl⟩; subst he; have S1 := Lib.hid (S0.out.step hbb); have HA1 := Lib.hid (HA0.out.step hbb); have G1 := S1.out.cells; have Z1 := heap_lt S1.out.z; have Z0 := heap_lt S1.out.r; have D1 := (Lib.hid ((S1.out.b.cell (p := ⟨b, off + n * 2, none⟩) (by assumption)).trans c0)); have D2 := (Lib.hid ((S1.out.b.cell (p := ⟨b, off + n * 2 + 1, none⟩) (by assumption)).trans c1)); have d1 := D1.out; have d2 := D2.out; have hb1 : b < w1.heap.size := Nat.lt_of_lt_of_le (by assumption) S1.out.b.size; clear hr)
    | fail)
  refine bodyPost_ret (results_row_tmp1 rfl _ _ (w.heap.size + 1) 24 #[.bool false, .slice none 0 0] (0, 0) _ rfl (heap_step (res_stored S1.out.z) (below_alloc _ (.cells #[.bool x, .bool true] 43))) Try.underlying24 rfl size_core) rfl ⟨rfl, pstep (set2_below _ _ S1.out.b (by omega)) (below_alloc _ (.cells #[.bool x, .bool true] 43))⟩
set_option maxHeartbeats 2000000 in
set_option maxRecDepth 100000 in
theorem g_rank4 {ad : Option Addr} {cap n : Nat} {l : List FrT} (on : Bool) (w : World) (HA : Hid (shF.At w ad cap l)) (hm : Hid (l.length = n + 1)) (hn : n ≤ 400) (x : Bool) (hf : Hid (l[n]? = some ⟨x, false⟩)) (ho : Hid (RtN ⟨on, l⟩)) :
    Calls Try.prog 8 #[.agg #[.bool on, .slice ad (n + 1) cap], .int .i64 4] w fun e w' => e = .returned (.tuple #[.agg #[.bool false, .slice none 0 0], .int .i64 8]) ∧ Below w.heap.size w w' := by
  have S0 := Lib.hid (sc_new w on (.slice ad (n + 1) cap))
  have HA0 := Lib.hid (HA.out.step S0.out.b)
  obtain ⟨b, off, rfl, hb, c0, c1⟩ := at_fr HA.out hf.out
  simp only at c0 c1
  have e1 : ((n : Int) + 1 == 0) = false := by simp; omega
  have e2 : (n : Int) + 1 - 1 = (n : Int) := by omega
  have e3 : ¬ ((n : Int) + 1 = 0) := by omega
  have hnc : n < n + 1 := by omega
  go_enter Try.func8, Try.ntmps8
  go_wp2_with (first
    | (go_at_call 12; (with_reducible refine (gright_N on _ HA0 hm (by omega)).mono ?_); rintro e w1 ⟨hr, hbb⟩; have he := retB_eq hr (b := true) ⟨fun _ => ho.out, fun _ => rfl⟩; subst he; have S1 := Lib.hid (S0.out.step hbb); have HA1 := Lib.hid (HA0.out.step hbb); have G1 := S1.out.cells; have Z1 := heap_lt S1.out.z; have Z0 := heap_lt S1.out.r; have D1 := (Lib.hid ((S1.out.b.cell (p := ⟨b, off + n * 2, none⟩) (by assumption)).trans c0)); have D2 := (Lib.hid ((S1.out.b.cell (p := ⟨b, off + n * 2 + 1, none⟩) (by assumption)).trans c1)); have d1 := D1.out; have d2 := D2.out; have hb1 : b < w1.heap.size := Nat.lt_of_lt_of_le (by assumption) S1.out.b.size; clear hr)
    | fail)
  refine bodyPost_ret (results_row_tmp1 rfl _ _ (w.heap.size + 1) 24 #[.bool false, .slice none 0 0] (0, 0) _ rfl (heap_step (res_stored S1.out.z) (below_alloc _ (.cells #[.bool x, .bool false] 43))) Try.underlying24 rfl size_core) rfl ⟨rfl, pstep (set2_below _ _ S1.out.b (by omega)) (below_alloc _ (.cells #[.bool x, .bool false] 43))⟩
end Go.Proofs.Yteeejkcehajokaa
