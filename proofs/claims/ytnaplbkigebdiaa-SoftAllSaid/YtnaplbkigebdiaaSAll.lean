/- SoftAll: what was raised runs, behind its raise, and nothing runs more often. -/
import Derived.Test.YtnaplbkigebdiaaSofR
import Derived.Test.YtnaplbkigebdiaaSofO
namespace Go.Proofs.Ytnaplbkigebdiaa
open Go.RowKit

section
variable {a1 a2 : Option Addr} {c1 c2 n m : Nat} {pd : List Int} {rs : List RaT}
set_option maxHeartbeats 4000000 in
set_option maxRecDepth 100000 in
theorem all_bad (r : Int) (w : World) (HA : Hid (shI.At w a1 c1 pd)) (hm : Hid (pd.length = n)) (hn : n ≤ 9223372036854775807) (HR : Hid (shR.At w a2 c2 rs)) (hm2 : Hid (rs.length = m)) (hn2 : m ≤ 9223372036854775807) (h : ¬ (RtJ pd rs ∧ 0 ≤ r ∧ r ≤ 400)) :
    Calls Try.prog 4 #[.slice a1 n c1, .slice a2 m c2, .int .i64 r] w fun e w' => e = .returned (.bool true) ∧ Below w.heap.size w w' := by
  obtain ⟨x, x1, x2, HX⟩ := run_bad r a1 a2 c1 c2 hm hn hm2 hn2 h
  clear h
  go_enter Try.func4, Try.ntmps4
  go_wp2_with (first
    | (go_at_call 13; (with_reducible refine (alive10_N _).mono ?_); rintro e w1 ⟨rfl, hb⟩; have B1 := Lib.hid hb; have A1 := Lib.hid (HA.out.step hb); have R1 := Lib.hid (HR.out.step hb); clear hb)
    | (go_at_call 8; (with_reducible refine (HX _ A1 R1).mono ?_); rintro e w2 ⟨rfl, hb⟩; have B2 := Lib.hid (pstep B1.out hb); clear hb)
    | fail)
  go_ret
  exact ⟨rfl, B2.out⟩
/-- What is in memory behind Run. -/
structure LpA (w wx : World) (a1 a2 ea : Option Addr) (c1 c2 ec : Nat) (pd : List Int) (rs : List RaT) : Prop where
  b : Below w.heap.size w wx
  p : shI.At wx a1 c1 pd
  r : shR.At wx a2 c2 rs
  e : shI.At wx ea ec (natL (runJ pd rs))
theorem LpA.step {w wx wy : World} {ea : Option Addr} {ec : Nat} (h : LpA w wx a1 a2 ea c1 c2 ec pd rs) (hb : Below wx.heap.size wx wy) : LpA w wy a1 a2 ea c1 c2 ec pd rs :=
  ⟨pstep h.b hb, h.p.step hb, h.r.step hb, h.e.step hb⟩
set_option maxHeartbeats 4000000 in
set_option maxRecDepth 100000 in
theorem all_ok (r : Nat) (w : World) (HA : Hid (shI.At w a1 c1 pd)) (hm : Hid (pd.length = n)) (hn : n ≤ 9223372036854775807) (HR : Hid (shR.At w a2 c2 rs)) (hm2 : Hid (rs.length = m)) (hn2 : m ≤ 9223372036854775807) (hc2 : m ≤ c2) (HRT : Hid (RtJ pd rs)) (hr : r ≤ 400) :
    Calls Try.prog 4 #[.slice a1 n c1, .slice a2 m c2, .int .i64 r] w fun e w' => e = .returned (.bool true) ∧ Below w.heap.size w w' := by
  have HDU := Lib.hid (run_due HRT.out)
  obtain ⟨T, hT⟩ : ∃ T, (runJ pd rs).length = T := ⟨_, rfl⟩
  obtain ⟨N, hN⟩ : ∃ N, firstJ pd rs r = N := ⟨_, rfl⟩
  have hNT : N ≤ T := by rw [← hN, ← hT]; exact first_le HRT.out r
  have hNTd : decide (N ≤ T) = true := decide_eq_true hNT
  have HT : Hid ((natL (runJ pd rs)).length = T) := Lib.hid (by rw [natL_len, hT])
  have hT4 : T ≤ 408 := by rw [← hT]; exact run_big HRT.out
  have hT9 : T ≤ 9223372036854775807 := by omega
  have HTR := Lib.hid hT
  have HNR := Lib.hid hN
  clear hT hN
  go_enter Try.func4, Try.ntmps4
  go_wp2_with (first
    | (go_at_call 13; (with_reducible refine (alive10_N _).mono ?_); rintro e w1 ⟨rfl, hb⟩; have B1 := Lib.hid hb; have A1 := Lib.hid (HA.out.step hb); have R1 := Lib.hid (HR.out.step hb); clear hb)
    | (go_at_call 8; (with_reducible refine (run_ok r _ A1 hm hn R1 hm2 hn2 hc2 HRT hr).mono ?_); rintro e w2 ⟨ea, ec, rfl, hE, hTc, hb⟩; have L2 : Hid (LpA w w2 a1 a2 ea c1 c2 ec pd rs) := Lib.hid ⟨pstep B1.out hb, A1.out.step hb, R1.out.step hb, hE⟩; clear hb hE; rw [HTR.out] at hTc; rw [HTR.out, HNR.out])
    | fail)
  clear A1 R1 B1 HA HR
  go_loopw [35] (fun i wr => ∃ s : Nat, s ≤ 8 ∧ i = .int .i64 s ∧ Hid (LpA w wr a1 a2 ea c1 c2 ec pd rs)) (fun i _ => 8 - (intOf i).toNat)
  case atStart => exact ⟨0, by omega, rfl, L2⟩
  case round =>
    clear L2
    obtain ⟨s, hs, rfl, HL⟩ := hrel
    by_cases hlt : s < 8
    · have hs8d : decide (s < 8) = true := decide_eq_true hlt
      have HP1 := Lib.hid HL.out.p
      have HE1 := Lib.hid HL.out.e
      generalize wr = wo at *
      cases hq : pendJ pd s with
      | false =>
        have HQ : Hid (decide ((s : Int) ∈ pd) = false) := Lib.hid hq
        have HC0 : Hid (cntA pd rs T s 0 = 0) := Lib.hid (by rw [cntA_zero, hq]; rfl)
        clear hq
        go_wp2_with (first
          | (go_at_call_of 14 (Value.slice a1 n c1); (with_reducible refine (contains_L _ _ HP1 hm hn false HQ).mono ?_); rintro e w5 ⟨rfl, rfl⟩)
          | fail)
        clear HQ
        go_loopw [11, 49] (fun c i wq => ∃ (j v : Nat), j ≤ m ∧ i = .int .i64 j ∧ c = .int .i64 v ∧ Hid (cntA pd rs T s j = v) ∧ Hid (LpA w wq a1 a2 ea c1 c2 ec pd rs)) (fun _ i _ => m - (intOf i).toNat)
        case atStart => exact ⟨0, 0, Nat.zero_le _, rfl, rfl, HC0, HL⟩
        case round =>
          clear HC0 HL HP1 HE1
          obtain ⟨j, v, hj, rfl, rfl, HV, HL⟩ := hrel
          have hv401 : v ≤ 401 := by rw [← HV.out]; exact cntA_le pd HRT.out.2.1 T s j
          by_cases hjm : j < m
          · obtain ⟨f, hf⟩ : ∃ f, rs[j]? = some f := ⟨rs[j]'(by rw [hm2.out]; exact hjm), List.getElem?_eq_getElem _⟩
            obtain ⟨bk, off, rfl, hb, e0, e1⟩ := at_ra HL.out.r hf
            have HF := Lib.hid hf
            obtain ⟨x, y⟩ := f
            simp only at e0 e1
            have HLN := Lib.hid (HL.out.step (below_alloc wr (.cells #[.int .i64 x, .int .i64 y] 35)))
            clear hf HL
            by_cases hy : y = (s : Int)
            · subst hy
              by_cases hx : x ≤ (T : Int)
              · have hxd : decide (x ≤ (T : Int)) = true := decide_eq_true hx
                have HV1 : Hid (cntA pd rs T s (j + 1) = v + 1) := Lib.hid (by rw [cntA_yes HF.out ⟨rfl, hx⟩, HV.out])
                by_cases hx0 : 0 < x
                · have hx0d : decide (0 < x) = true := decide_eq_true hx0
                  by_cases hxT : x < (T : Int)
                  · have hxTd : decide (x < (T : Int)) = true := decide_eq_true hxT
                    obtain ⟨X, rfl⟩ : ∃ X : Nat, x = X := ⟨x.toNat, by omega⟩
                    obtain ⟨eb, eo, rfl⟩ := at_addrI HLN.out.e (by rw [HT.out]; omega)
                    have hXT : X ≤ T := by omega
                    have hXTd : decide (X < T) = true := decide_eq_true (by omega)
                    have hXTd2 : decide (X ≤ T) = true := decide_eq_true (by omega)
                    have hX0d : decide (0 < X) = true := decide_eq_true (by omega)
                    have hXc : ¬ X = ec := by omega
                    have hXc2 : ¬ ec = X := by omega
                    have hXc1 : X ≤ ec := by omega
                    have HSL := Lib.hid (at_dropI HLN.out.e X (ec - X))
                    have HLL : Hid (((natL (runJ pd rs)).drop X).length = T - X) := Lib.hid (by rw [List.length_drop, HT.out])
                    have hTX : T - X ≤ 9223372036854775807 := by omega
                    have HIN : Hid (decide ((s : Int) ∈ (natL (runJ pd rs)).drop X) = true) := Lib.hid (by
                      rw [← natL_drop, decide_eq_true_iff, natL_mem]
                      exact HDU.out.2 X s hlt (by omega) (by rw [HTR.out]; exact hXT) ((rJ_iff _ _ _).2 ⟨j, _, HF.out, rfl, rfl⟩))
                    clear hx hxT hxd hx0 hx0d hxTd
                    go_wp2_with (first
                      | (go_at_call 14; (with_reducible refine (contains_L _ _ HSL HLL hTX true HIN).mono ?_); rintro e w5 ⟨rfl, rfl⟩)
                      | fail)
                    go_roundw
                    case rel => exact ⟨j + 1, v + 1, by omega, by go_num, by go_num, HV1, HLN⟩
                    case measure => simp [intOf]; omega
                  · have hxTd : decide (x < (T : Int)) = false := decide_eq_false hxT
                    go_wp2_with fail
                    go_roundw
                    case rel => exact ⟨j + 1, v + 1, by omega, by go_num, by go_num, HV1, HLN⟩
                    case measure => simp [intOf]; omega
                · have hx0d : decide (0 < x) = false := decide_eq_false hx0
                  go_wp2_with fail
                  go_roundw
                  case rel => exact ⟨j + 1, v + 1, by omega, by go_num, by go_num, HV1, HLN⟩
                  case measure => simp [intOf]; omega
              · have hxd : decide (x ≤ (T : Int)) = false := decide_eq_false hx
                have HV1 : Hid (cntA pd rs T s (j + 1) = v) := Lib.hid (by rw [cntA_no HF.out (fun h => hx h.2), HV.out])
                go_wp2_with fail
                go_roundw
                case rel => exact ⟨j + 1, v, by omega, by go_num, rfl, HV1, HLN⟩
                case measure => simp [intOf]; omega
            · have hyd : (y == (s : Int)) = false := by simpa using hy
              have HV1 : Hid (cntA pd rs T s (j + 1) = v) := Lib.hid (by rw [cntA_no HF.out (fun h => hy h.1), HV.out])
              go_wp2_with fail
              go_roundw
              case rel => exact ⟨j + 1, v, by omega, by go_num, rfl, HV1, HLN⟩
              case measure => simp [intOf]; omega
          · obtain rfl : j = m := by omega
            have HCNT : Hid ((runJ pd rs).count s ≤ v) := Lib.hid (by
              have h1 := cntA_all HRT.out (s := s)
              rw [HTR.out, hm2.out, HV.out] at h1
              exact h1)
            clear hjm hj HV
            go_wp2_with fail
            go_loop [11, 88] (fun c i => ∃ (p : Nat) (u : Int), p ≤ T ∧ i = .int .i64 p ∧ c = .int .i64 u ∧ Hid (u = (v : Int) - (cntL (runJ pd rs) s p : Int))) (fun _ i => T - (intOf i).toNat)
            case atStart => exact ⟨0, v, Nat.zero_le _, rfl, rfl, Lib.hid (by simp [cntL])⟩
            case round =>
              obtain ⟨p, u, hp, rfl, rfl, HU⟩ := hrel
              have hu0 : 0 ≤ u := by
                have h1 := cntL_le (runJ pd rs) s p
                have h2 := HCNT.out
                have h3 := HU.out
                omega
              have hu1 : u ≤ 401 := by have h3 := HU.out; omega
              by_cases hpT : p < T
              · obtain ⟨x, hx⟩ : ∃ x, (runJ pd rs)[p]? = some x := ⟨(runJ pd rs)[p]'(by rw [HTR.out]; exact hpT), List.getElem?_eq_getElem _⟩
                obtain ⟨eb, eo, rfl, hbb, e0⟩ := at_int HL.out.e (natL_get hx)
                have HX := Lib.hid hx
                clear hx
                by_cases hxs : x = s
                · subst hxs
                  have HU1 : Hid (u - 1 = (v : Int) - (cntL (runJ pd rs) x (p + 1) : Int)) := Lib.hid (by rw [cntL_yes HX.out, HU.out]; omega)
                  go_wp2_with fail
                  go_round
                  case rel => exact ⟨p + 1, u - 1, by omega, by go_num, by go_num, HU1⟩
                  case measure => simp [intOf]; omega
                · have hxd : ((x : Int) == (s : Int)) = false := by simp only [beq_eq_false_iff_ne, ne_eq]; omega
                  have hxd2 : (x == s) = false := by simpa using hxs
                  have HU1 : Hid (u = (v : Int) - (cntL (runJ pd rs) s (p + 1) : Int)) := Lib.hid (by rw [cntL_no HX.out hxs]; exact HU.out)
                  go_wp2_with fail
                  go_round
                  case rel => exact ⟨p + 1, u, by omega, by go_num, rfl, HU1⟩
                  case measure => simp [intOf]; omega
              · obtain rfl : p = T := by omega
                have hud : decide (u < 0) = false := decide_eq_false (by omega)
                clear hpT hp HU HCNT
                go_wp2_with fail
                go_roundw
                case rel => exact ⟨s + 1, by omega, by go_num, HL⟩
                case measure => simp [intOf]; omega
      | true =>
        have HQ : Hid (decide ((s : Int) ∈ pd) = true) := Lib.hid hq
        have HI : Hid (decide ((s : Int) ∈ natL (runJ pd rs)) = true) := Lib.hid (decide_eq_true (natL_mem.2 (HDU.out.1 s hlt hq)))
        have HC0 : Hid (cntA pd rs T s 0 = 1) := Lib.hid (by rw [cntA_zero, hq]; rfl)
        clear hq
        go_wp2_with (first
          | (go_at_call_of 14 (Value.slice a1 n c1); (with_reducible refine (contains_L _ _ HP1 hm hn true HQ).mono ?_); rintro e w5 ⟨rfl, rfl⟩)
          | (go_at_call_of 14 (Value.slice ea T ec); (with_reducible refine (contains_L _ _ HE1 HT hT9 true HI).mono ?_); rintro e w5 ⟨rfl, rfl⟩)
          | fail)
        clear HQ HI
        go_loopw [11, 49] (fun c i wq => ∃ (j v : Nat), j ≤ m ∧ i = .int .i64 j ∧ c = .int .i64 v ∧ Hid (cntA pd rs T s j = v) ∧ Hid (LpA w wq a1 a2 ea c1 c2 ec pd rs)) (fun _ i _ => m - (intOf i).toNat)
        case atStart => exact ⟨0, 1, Nat.zero_le _, rfl, rfl, HC0, HL⟩
        case round =>
          clear HC0 HL HP1 HE1
          obtain ⟨j, v, hj, rfl, rfl, HV, HL⟩ := hrel
          have hv401 : v ≤ 401 := by rw [← HV.out]; exact cntA_le pd HRT.out.2.1 T s j
          by_cases hjm : j < m
          · obtain ⟨f, hf⟩ : ∃ f, rs[j]? = some f := ⟨rs[j]'(by rw [hm2.out]; exact hjm), List.getElem?_eq_getElem _⟩
            obtain ⟨bk, off, rfl, hb, e0, e1⟩ := at_ra HL.out.r hf
            have HF := Lib.hid hf
            obtain ⟨x, y⟩ := f
            simp only at e0 e1
            have HLN := Lib.hid (HL.out.step (below_alloc wr (.cells #[.int .i64 x, .int .i64 y] 35)))
            clear hf HL
            by_cases hy : y = (s : Int)
            · subst hy
              by_cases hx : x ≤ (T : Int)
              · have hxd : decide (x ≤ (T : Int)) = true := decide_eq_true hx
                have HV1 : Hid (cntA pd rs T s (j + 1) = v + 1) := Lib.hid (by rw [cntA_yes HF.out ⟨rfl, hx⟩, HV.out])
                by_cases hx0 : 0 < x
                · have hx0d : decide (0 < x) = true := decide_eq_true hx0
                  by_cases hxT : x < (T : Int)
                  · have hxTd : decide (x < (T : Int)) = true := decide_eq_true hxT
                    obtain ⟨X, rfl⟩ : ∃ X : Nat, x = X := ⟨x.toNat, by omega⟩
                    obtain ⟨eb, eo, rfl⟩ := at_addrI HLN.out.e (by rw [HT.out]; omega)
                    have hXT : X ≤ T := by omega
                    have hXTd : decide (X < T) = true := decide_eq_true (by omega)
                    have hXTd2 : decide (X ≤ T) = true := decide_eq_true (by omega)
                    have hX0d : decide (0 < X) = true := decide_eq_true (by omega)
                    have hXc : ¬ X = ec := by omega
                    have hXc2 : ¬ ec = X := by omega
                    have hXc1 : X ≤ ec := by omega
                    have HSL := Lib.hid (at_dropI HLN.out.e X (ec - X))
                    have HLL : Hid (((natL (runJ pd rs)).drop X).length = T - X) := Lib.hid (by rw [List.length_drop, HT.out])
                    have hTX : T - X ≤ 9223372036854775807 := by omega
                    have HIN : Hid (decide ((s : Int) ∈ (natL (runJ pd rs)).drop X) = true) := Lib.hid (by
                      rw [← natL_drop, decide_eq_true_iff, natL_mem]
                      exact HDU.out.2 X s hlt (by omega) (by rw [HTR.out]; exact hXT) ((rJ_iff _ _ _).2 ⟨j, _, HF.out, rfl, rfl⟩))
                    clear hx hxT hxd hx0 hx0d hxTd
                    go_wp2_with (first
                      | (go_at_call 14; (with_reducible refine (contains_L _ _ HSL HLL hTX true HIN).mono ?_); rintro e w5 ⟨rfl, rfl⟩)
                      | fail)
                    go_roundw
                    case rel => exact ⟨j + 1, v + 1, by omega, by go_num, by go_num, HV1, HLN⟩
                    case measure => simp [intOf]; omega
                  · have hxTd : decide (x < (T : Int)) = false := decide_eq_false hxT
                    go_wp2_with fail
                    go_roundw
                    case rel => exact ⟨j + 1, v + 1, by omega, by go_num, by go_num, HV1, HLN⟩
                    case measure => simp [intOf]; omega
                · have hx0d : decide (0 < x) = false := decide_eq_false hx0
                  go_wp2_with fail
                  go_roundw
                  case rel => exact ⟨j + 1, v + 1, by omega, by go_num, by go_num, HV1, HLN⟩
                  case measure => simp [intOf]; omega
              · have hxd : decide (x ≤ (T : Int)) = false := decide_eq_false hx
                have HV1 : Hid (cntA pd rs T s (j + 1) = v) := Lib.hid (by rw [cntA_no HF.out (fun h => hx h.2), HV.out])
                go_wp2_with fail
                go_roundw
                case rel => exact ⟨j + 1, v, by omega, by go_num, rfl, HV1, HLN⟩
                case measure => simp [intOf]; omega
            · have hyd : (y == (s : Int)) = false := by simpa using hy
              have HV1 : Hid (cntA pd rs T s (j + 1) = v) := Lib.hid (by rw [cntA_no HF.out (fun h => hy h.1), HV.out])
              go_wp2_with fail
              go_roundw
              case rel => exact ⟨j + 1, v, by omega, by go_num, rfl, HV1, HLN⟩
              case measure => simp [intOf]; omega
          · obtain rfl : j = m := by omega
            have HCNT : Hid ((runJ pd rs).count s ≤ v) := Lib.hid (by
              have h1 := cntA_all HRT.out (s := s)
              rw [HTR.out, hm2.out, HV.out] at h1
              exact h1)
            clear hjm hj HV
            go_wp2_with fail
            go_loop [11, 88] (fun c i => ∃ (p : Nat) (u : Int), p ≤ T ∧ i = .int .i64 p ∧ c = .int .i64 u ∧ Hid (u = (v : Int) - (cntL (runJ pd rs) s p : Int))) (fun _ i => T - (intOf i).toNat)
            case atStart => exact ⟨0, v, Nat.zero_le _, rfl, rfl, Lib.hid (by simp [cntL])⟩
            case round =>
              obtain ⟨p, u, hp, rfl, rfl, HU⟩ := hrel
              have hu0 : 0 ≤ u := by
                have h1 := cntL_le (runJ pd rs) s p
                have h2 := HCNT.out
                have h3 := HU.out
                omega
              have hu1 : u ≤ 401 := by have h3 := HU.out; omega
              by_cases hpT : p < T
              · obtain ⟨x, hx⟩ : ∃ x, (runJ pd rs)[p]? = some x := ⟨(runJ pd rs)[p]'(by rw [HTR.out]; exact hpT), List.getElem?_eq_getElem _⟩
                obtain ⟨eb, eo, rfl, hbb, e0⟩ := at_int HL.out.e (natL_get hx)
                have HX := Lib.hid hx
                clear hx
                by_cases hxs : x = s
                · subst hxs
                  have HU1 : Hid (u - 1 = (v : Int) - (cntL (runJ pd rs) x (p + 1) : Int)) := Lib.hid (by rw [cntL_yes HX.out, HU.out]; omega)
                  go_wp2_with fail
                  go_round
                  case rel => exact ⟨p + 1, u - 1, by omega, by go_num, by go_num, HU1⟩
                  case measure => simp [intOf]; omega
                · have hxd : ((x : Int) == (s : Int)) = false := by simp only [beq_eq_false_iff_ne, ne_eq]; omega
                  have hxd2 : (x == s) = false := by simpa using hxs
                  have HU1 : Hid (u = (v : Int) - (cntL (runJ pd rs) s (p + 1) : Int)) := Lib.hid (by rw [cntL_no HX.out hxs]; exact HU.out)
                  go_wp2_with fail
                  go_round
                  case rel => exact ⟨p + 1, u, by omega, by go_num, rfl, HU1⟩
                  case measure => simp [intOf]; omega
              · obtain rfl : p = T := by omega
                have hud : decide (u < 0) = false := decide_eq_false (by omega)
                clear hpT hp HU HCNT
                go_wp2_with fail
                go_roundw
                case rel => exact ⟨s + 1, by omega, by go_num, HL⟩
                case measure => simp [intOf]; omega
    · obtain rfl : s = 8 := by omega
      clear hs hlt
      go_wp2_with fail
      go_ret
      exact ⟨by simp [*], HL.out.b⟩
theorem softAll_walk (v u r : Value) (w : World) (h : ArgKs w v) (h2 : ArgRas w u) (hr : ArgInt w r) : Calls Try.prog 4 #[v, u, r] w fun e w' => e = .returned (.bool true) ∧ Below w.heap.size w w' := by
  obtain ⟨a1, c1, pd, rfl, hA, hn, _⟩ := h
  obtain ⟨a2, c2, rs, rfl, hR, hn2, hc2⟩ := h2
  obtain ⟨r, rfl⟩ := hr
  by_cases q1 : RtJ pd rs ∧ 0 ≤ r ∧ r ≤ 400
  · obtain ⟨R, rfl⟩ : ∃ R : Nat, r = R := ⟨r.toNat, by omega⟩
    exact all_ok R w (Lib.hid hA) (Lib.hid rfl) hn (Lib.hid hR) (Lib.hid rfl) hn2 hc2 (Lib.hid q1.1) (by omega)
  · exact all_bad r w (Lib.hid hA) (Lib.hid rfl) hn (Lib.hid hR) (Lib.hid rfl) hn2 q1
end
end Go.Proofs.Ytnaplbkigebdiaa
