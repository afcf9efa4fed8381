/- Package soft: the walk of Run. -/
import Derived.Test.YtnaplbkigebdiaaSofE
namespace Go.Proofs.Ytnaplbkigebdiaa
open Go.RowKit

theorem retB_yes {P : Prop} {e : Ending} (h : RetB P e) (hp : P) : e = .returned (.bool true) := retB_eq h ⟨fun _ => hp, fun _ => rfl⟩
theorem retB_no {P : Prop} {e : Ending} (h : RetB P e) (hp : ¬ P) : e = .returned (.bool false) := retB_eq h ⟨(fun e => by cases e), fun q => absurd q hp⟩
def RunErr (w : World) (x : Int) (e : Ending) (w' : World) : Prop := e = .returned (.tuple #[.slice none 0 0, .int .i64 0, .int .i64 x]) ∧ Below w.heap.size w w'
section
variable {a1 a2 : Option Addr} {c1 c2 n m : Nat} {pd : List Int} {rs : List RaT}
set_option maxHeartbeats 1000000 in
set_option maxRecDepth 100000 in
theorem run_form (r : Int) (w : World) (HA : Hid (shI.At w a1 c1 pd)) (hm : Hid (pd.length = n)) (hn : n ≤ 9223372036854775807) (HR : Hid (shR.At w a2 c2 rs)) (hm2 : Hid (rs.length = m)) (hn2 : m ≤ 9223372036854775807) (HV : Hid (¬ RtJ pd rs)) :
    Calls Try.prog 8 #[.slice a1 n c1, .slice a2 m c2, .int .i64 r] w (RunErr w 1) := by
  go_enter Try.func8, Try.ntmps8
  go_wp2_with (first
    | (go_at_call 10; (with_reducible refine (right_N _ HA hm hn HR hm2 hn2).mono ?_); rintro e w1 ⟨hr, hb⟩; obtain rfl := retB_no hr HV.out; clear hr)
    | fail)
  refine bodyPost_ret (v := .tuple #[.slice none 0 0, .int .i64 0, .int .i64 1]) (by simp [results, Try.results8, go_sem]) rfl ?_
  exact ⟨rfl, hb⟩
set_option maxHeartbeats 1000000 in
set_option maxRecDepth 100000 in
theorem run_range (r : Int) (w : World) (HA : Hid (shI.At w a1 c1 pd)) (hm : Hid (pd.length = n)) (hn : n ≤ 9223372036854775807) (HR : Hid (shR.At w a2 c2 rs)) (hm2 : Hid (rs.length = m)) (hn2 : m ≤ 9223372036854775807) (HV : Hid (RtJ pd rs)) (hr : ¬ (0 ≤ r ∧ r ≤ 400)) :
    Calls Try.prog 8 #[.slice a1 n c1, .slice a2 m c2, .int .i64 r] w (RunErr w 2) := by
  have HW : Hid (decide (0 ≤ r ∧ r ≤ 400) = false) := Lib.hid (decide_eq_false hr)
  clear hr
  go_enter Try.func8, Try.ntmps8
  go_wp2_with (first
    | (go_at_call 10; (with_reducible refine (right_N _ HA hm hn HR hm2 hn2).mono ?_); rintro e w1 ⟨hr, hb⟩; obtain rfl := retB_yes hr HV.out; clear hr)
    | (go_at_call 19; (with_reducible refine (within_C r 0 400 _ false HW).mono ?_); rintro e w1 ⟨rfl, rfl⟩)
    | fail)
  refine bodyPost_ret (v := .tuple #[.slice none 0 0, .int .i64 0, .int .i64 2]) (by simp [results, Try.results8, go_sem]) rfl ?_
  exact ⟨rfl, hb⟩
/-- What Run answers where nothing speaks against it. -/
def RunOut (w : World) (pd : List Int) (rs : List RaT) (r : Nat) (e : Ending) (w' : World) : Prop :=
  ∃ ea ec, e = .returned (.tuple #[.slice ea (runJ pd rs).length ec, .int .i64 (firstJ pd rs r : Int), .int .i64 0]) ∧ shI.At w' ea ec (natL (runJ pd rs)) ∧ (runJ pd rs).length ≤ ec ∧ Below w.heap.size w w'
theorem pg_begin {w w2 : World} {B d lc : Nat} {la : Option Addr} {f : Nat → Bool} (hl : shR.At w la lc (rs.drop d)) (hc : rs.length - d ≤ lc) (hB : w.heap.size ≤ B) {w1 : World} (hb : Below w.heap.size w w1) (hset : SetR w1 w2 B (.cells (pgRow f (.slice la (rs.length - d) lc) (.slice none 0 0)) 47 (0, 0))) : Pg w w2 B rs f d [] la lc none 0 :=
  ⟨hb.trans (hset.below _ hB), hB, hset.put, hl, hc, World.ownsRow_nil _ _ _ _⟩
set_option maxHeartbeats 2000000 in
set_option maxRecDepth 100000 in
theorem run_ok (r : Nat) (w : World) (HA : Hid (shI.At w a1 c1 pd)) (hm : Hid (pd.length = n)) (hn : n ≤ 9223372036854775807) (HR : Hid (shR.At w a2 c2 rs)) (hm2 : Hid (rs.length = m)) (hn2 : m ≤ 9223372036854775807) (hc2 : m ≤ c2) (HV : Hid (RtJ pd rs)) (hr : r ≤ 400) :
    Calls Try.prog 8 #[.slice a1 n c1, .slice a2 m c2, .int .i64 r] w (RunOut w pd rs r) := by
  have HW : Hid (decide ((0 : Int) ≤ (r : Int) ∧ (r : Int) ≤ 400) = true) := Lib.hid (decide_eq_true (by omega))
  have HS : Hid ((Try.prog.info? 47).map (·.size) = some 10) := Lib.hid size_pg
  have HU := Lib.hid HV.out.2.2
  go_enter Try.func8, Try.ntmps8
  go_wp2_with (first
    | (go_at_call 10; (with_reducible refine (right_N _ HA hm hn HR hm2 hn2).mono ?_); rintro e w1 ⟨hr, hb⟩; obtain rfl := retB_yes hr HV.out; have B1 := Lib.hid hb; have HA1 := Lib.hid (HA.out.step hb); have HR1 := Lib.hid (HR.out.step hb); clear hr hb)
    | (go_at_call 19; (with_reducible refine (within_C (r : Int) 0 400 _ true HW).mono ?_); rintro e w1 ⟨rfl, rfl⟩)
    | (go_at_call 20; (with_reducible refine (start_N _ HA1 hm hn HR1 hm2 hc2 HV).mono ?_); rintro e w2 ⟨la, lc, d, rfl, hl, hc, hcut, hb⟩; have B2 := Lib.hid hb; have L2 := Lib.hid hl; have C2 := Lib.hid hcut; have hb2 := hb.size; clear hl hcut hb)
    | (refine wpList_store_row rfl 47 _ _ rfl w2.heap.size (pgRow (stJ pd rs).now (.slice la (rs.length - d) lc) (.slice none 0 0)) rfl rfl 47 _ (heap_alloc_new w2 _) HS.out rfl (pg_one _ _ _ _ _ _ _) ?_; intro w3 hset; have P3 := Lib.hid (pg_begin L2.out hc hb2 (B2.out.trans ((below_alloc w2 _).mono hb2)) hset); clear hset)
    | fail)
  have P0 : Hid (Pg w1 w3 w2.heap.size rs (rdJ pd rs 0).now d (rdJ pd rs 0).ran la lc none 0) := P3
  have C0 : Hid (CutJ rs ((rdJ pd rs 0).ran.length : Int) d) := C2
  clear P3 C2 L2 B2 hc HW
  generalize w2.heap.size = B at P0 hb2 ⊢
  go_loopw [10, 11] (fun v i wr => ∃ (k d lc ec x : Nat) (la ea : Option Addr), i = .int .i64 k ∧ v = .int .i64 x ∧ k ≤ 408 ∧ Hid (Pg w1 wr B rs (rdJ pd rs k).now d (rdJ pd rs k).ran la lc ea ec) ∧ Hid (CutJ rs ((rdJ pd rs k).ran.length : Int) d) ∧ Hid ((rdJ pd rs (min k r)).ran.length = x) ∧ Hid (∀ j, j < k → ¬ EmptyJ (rdJ pd rs j).now)) (fun _ i _ => 409 - (intOf i).toNat)
  case atStart => exact ⟨0, d, lc, 0, 0, la, none, rfl, rfl, by omega, P0, C0, Lib.hid (by rw [Nat.zero_min]; rfl), Lib.hid fun j hj => by omega⟩
  case round =>
    clear P0 C0
    obtain ⟨k, d, lc, ec, x, la, ea, rfl, rfl, hk, HP, HC, HX, HE⟩ := hrel
    cases hb : anyJ (rdJ pd rs k).now with
    | false =>
      have HB := Lib.hid hb
      have he := (any_empty _).1 hb
      have HO := HP.out.o
      have e1 := run_of HV.out he
      have e2 : x = firstJ pd rs r := by rw [← HX.out]; exact first_of he
      obtain ⟨_, _, c9, _, hBl⟩ := HP.out.cells
      rw [e1] at c9 HO
      have HOO := Lib.hid HO
      subst e2
      clear hb he e1 HO HX
      go_wp2_with (first
        | (go_at_call 21; (with_reducible refine (any_N HP false HB).mono ?_); rintro e w5 ⟨rfl, rfl⟩)
        | fail)
      refine bodyPost_ret (v := .tuple #[.slice ea (runJ pd rs).length ec, .int .i64 (firstJ pd rs r : Int), .int .i64 0]) (by simp [results, Try.results8, go_sem]) rfl ?_
      obtain ⟨ad', cap', hv, hle, _⟩ := own_shape HOO.out
      simp only [Value.slice.injEq, true_and] at hv
      exact ⟨ea, ec, rfl, Shape.At.own (S := shI) HOO.out (natL_len _), by rw [hv.2]; exact hle, pstep B1.out HP.out.b⟩
    | true =>
      have HB := Lib.hid hb
      have hne : ¬ EmptyJ (rdJ pd rs k).now := fun e => by rw [(any_empty _).2 e] at hb; cases hb
      have HE1 := Lib.hid (show ∀ j, j < k + 1 → ¬ EmptyJ (rdJ pd rs j).now from fun j hj => by
        by_cases q : j = k
        · rw [q]; exact hne
        · exact HE.out j (by omega))
      have hk1 : k + 1 ≤ 408 := Nat.le_trans (rd_at_least (k + 1) HE1.out) (rd_len HV.out (k + 1))
      have HN := Lib.hid (rd_next pd rs k)
      have HL := Lib.hid (fun j hj => scan_len9 HV.out k j hj)
      clear hb hne HE
      by_cases hkr : k < r
      · have hkd : decide (k < r) = true := decide_eq_true hkr
        have HX1 : Hid ((rdJ pd rs (min (k + 1) r)).ran.length = (rdJ pd rs (k + 1)).ran.length) := Lib.hid (by rw [Nat.min_eq_left (by omega)])
        go_wp2_with (first
          | (go_at_call 21; (with_reducible refine (any_N HP true HB).mono ?_); rintro e w5 ⟨rfl, rfl⟩)
          | (go_at_call 22; (with_reducible refine (playRound_N HP HU HC HN HL).mono ?_); rintro e w6 ⟨rfl, d6, la6, lc6, ea6, ec6, p6, c6⟩; have P6 : Hid (Pg w1 w6 B rs (rdJ pd rs (k + 1)).now d6 (rdJ pd rs (k + 1)).ran la6 lc6 ea6 ec6) := Lib.hid p6; have C6 : Hid (CutJ rs ((rdJ pd rs (k + 1)).ran.length : Int) d6) := Lib.hid c6; have c9 := P6.out.cells.2.2.1; have hBl := P6.out.cells.2.2.2.2; clear p6 c6)
          | fail)
        go_roundw
        case rel => exact ⟨k + 1, d6, lc6, ec6, _, la6, ea6, by go_num, rfl, hk1, P6, C6, HX1, HE1⟩
        case measure => simp [intOf]; omega
      · have hkd : decide (k < r) = false := decide_eq_false hkr
        have HX1 : Hid ((rdJ pd rs (min (k + 1) r)).ran.length = x) := Lib.hid (by rw [← HX.out, Nat.min_eq_right (by omega), Nat.min_eq_right (by omega)])
        go_wp2_with (first
          | (go_at_call 21; (with_reducible refine (any_N HP true HB).mono ?_); rintro e w5 ⟨rfl, rfl⟩)
          | (go_at_call 22; (with_reducible refine (playRound_N HP HU HC HN HL).mono ?_); rintro e w6 ⟨rfl, d6, la6, lc6, ea6, ec6, p6, c6⟩; have P6 : Hid (Pg w1 w6 B rs (rdJ pd rs (k + 1)).now d6 (rdJ pd rs (k + 1)).ran la6 lc6 ea6 ec6) := Lib.hid p6; have C6 : Hid (CutJ rs ((rdJ pd rs (k + 1)).ran.length : Int) d6) := Lib.hid c6; clear p6 c6)
          | fail)
        go_roundw
        case rel => exact ⟨k + 1, d6, lc6, ec6, x, la6, ea6, by go_num, rfl, hk1, P6, C6, HX1, HE1⟩
        case measure => simp [intOf]; omega
end
end Go.Proofs.Ytnaplbkigebdiaa
