/- corebellref.HCircle. -/
import Derived.Test.YtcnnimhdnmmaoaaRnkG
namespace Go.Proofs.Ytcnnimhdnmmaoaa
open Go.RowKit

theorem suc_none_w {T K : Nat} {s : RkT} {t : Nat} (h : ¬ (0 ≤ s.wait t ∧ s.wait t < K)) : sucK T K s t = none := by
  unfold sucK
  rw [if_pos (by omega)]
theorem suc_none_h {T K : Nat} {s : RkT} {t l : Nat} (h : s.wait t = l) (h2 : ¬ (0 ≤ s.hold l ∧ s.hold l < T)) : sucK T K s t = none := by
  unfold sucK
  rw [h, Int.toNat_natCast, if_pos (by omega)]
theorem it_stop {T K : Nat} {s : RkT} {f k t : Nat} (h : itK T K s f k = some t) (hs : sucK T K s t = none) (d : Nat) : itK T K s f (k + 1 + d) = none := by
  induction d with
  | zero => show (itK T K s f k).bind _ = none; rw [h]; exact hs
  | succ d ih => show (itK T K s f (k + 1 + d)).bind _ = none; rw [ih]; rfl
/-- Who comes to an end is in no circle. -/
theorem no_cyc_stop {T K : Nat} {s : RkT} {f k t : Nat} (hf : f < T) (h : itK T K s f k = some t) (hn : ∀ i, 0 < i → i ≤ k → ¬ itK T K s f i = some f) (hs : sucK T K s t = none) : ¬ CycK T K s f := by
  intro hc
  obtain ⟨j, h0, _, h1, _⟩ := cyc_soon hf hc
  by_cases g : j ≤ k
  · exact hn j h0 g h1
  · have := it_stop h hs (j - (k + 1))
    rw [show k + 1 + (j - (k + 1)) = j by omega, h1] at this
    cases this
/-- Who has not come again after as many steps as there are threads does not. -/
theorem no_cyc_far {T K : Nat} {s : RkT} {f k : Nat} (hf : f < T) (hk : T ≤ k) (hn : ∀ i, 0 < i → i ≤ k → ¬ itK T K s f i = some f) : ¬ CycK T K s f := by
  intro hc
  obtain ⟨j, h0, h1, h2, _⟩ := cyc_soon hf hc
  exact hn j h0 (by omega) h2
set_option maxHeartbeats 4000000 in
set_option maxRecDepth 100000 in
theorem hcircle_N {ha wa : Option Addr} {hc wc K n : Nat} {s : RkT} (w : World) (H1 : Hid (IntAt w ha hc K s.hold)) (H2 : Hid (IntAt w wa wc n s.wait)) (hn : n ≤ 17592186044415) :
    Calls Try.prog 14 #[.slice ha K hc, .slice wa n wc] w (TellC n K s w) := by
  obtain ⟨i0, hi, hz0, hz1, hz2⟩ := info_parts' info_int
  have hwn : IntKind.i64.wrap ((n : Int) + 1) = (n : Int) + 1 := by rw [IntKind.wrap_i64]; omega
  go_enter Try.func14, Try.ntmps14
  go_wp2_with fail
  go_loopw [11] (fun i wr => ∃ f : Nat, f ≤ n ∧ i = .int .i64 f ∧ Hid (∀ t, t < f → ¬ CycK n K s t) ∧ Hid (Below w.heap.size w wr)) (fun i _ => n - (intOf i).toNat)
  case atStart => exact ⟨0, Nat.zero_le _, rfl, Lib.hid fun t ht => by omega, Lib.hid (Below.refl _ _)⟩
  case round =>
    obtain ⟨f, hfn, rfl, HLS, HB⟩ := hrel
    by_cases hf : f < n
    · have O0 := Lib.hid (World.ownsRow_nil wr w.heap.size 3 1)
      go_wp2_with fail
      go_loopw [6, 7, 18] (fun p c i wr => ∃ (k t : Nat) (ra : Option Addr) (rc : Nat), k ≤ n + 1 ∧ i = .int .i64 k ∧ p = .slice ra k rc ∧ c = .int .i64 t ∧ Hid (itK n K s f k = some t) ∧ Hid (∀ i, 0 < i → i ≤ k → ¬ itK n K s f i = some f) ∧ Hid (wr.ownsRow w.heap.size 3 1 (.slice ra k rc) k (shI.flat (nums (wayN n K s f k)))) ∧ Hid (Below w.heap.size w wr)) (fun _ _ i _ => n + 1 - (intOf i).toNat)
      case atStart => exact ⟨0, f, none, 0, Nat.zero_le _, rfl, rfl, rfl, Lib.hid rfl, Lib.hid fun i h1 h2 => by omega, O0, HB⟩
      case round =>
        clear O0 HB
        obtain ⟨k, t, ra, rc, hk, rfl, rfl, rfl, HIT, HNO, HO, HB⟩ := hrel
        by_cases hlt : k < n + 1
        · have htn := it_lt hf HIT.out
          have HLEN : Hid ((nums (wayN n K s f k)).length = k) := Lib.hid (by rw [nums_len, way_len])
          have HEQ : Hid (nums (wayN n K s f k) ++ [(t : Int)] = nums (wayN n K s f (k + 1))) := Lib.hid (by rw [way_succ f k, nums_app, itN_of HIT.out]; rfl)
          have O4 := Lib.hid (own_step HO.out (below_alloc wr (.cells #[.int .i64 (t : Int)] 3)))
          have B4 := Lib.hid (pstep HB.out (below_alloc wr (.cells #[.int .i64 (t : Int)] 3)))
          have X4 := Lib.hid (lit1 wr (t : Int) 3 1)
          have hbase : w.heap.size ≤ (wr.alloc (.cells #[.int .i64 (t : Int)] 3)).heap.size := B4.out.size
          have hlt2 : (k : Int) < (n : Int) + 1 := by omega
          go_wp2_with (first
            | (at_builtin; refine wpList_append_n shI rfl _ _ 24 rfl w.heap.size 3 i0 _ 8 Try.underlying24 hi hz0 hz1 hz2 rfl (.slice ra k rc) k (nums (wayN n K s f k)) [(t : Int)] HLEN rfl O4.out (some ⟨wr.heap.size, 0, none⟩) 1 1 rfl (Lib.hid rfl) X4.out (by unfold maxLen; omega) (by omega) hbase ?_)
            | fail)
          intro ra5 rc5 w5 own5 grow5 _
          have B5 := Lib.hid (B4.out.grown grow5 B4.out.size (fun k hk => (own_lt O4.out hk).1))
          have O5 := Lib.hid own5
          rw [HEQ.out] at O5
          clear own5 grow5 O4 X4 hbase B4 HO HB HEQ HLEN
          obtain ⟨wb, wo, rfl, hwb, d0⟩ := H2.out.get htn
          have d1 := (B5.out.cell (p := ⟨wb, wo + t, none⟩) hwb).trans d0
          have hwr : wb < w5.heap.size := Nat.lt_of_lt_of_le hwb B5.out.size
          obtain ⟨lk, hlk⟩ : ∃ v, s.wait t = v := ⟨_, rfl⟩
          rw [hlk] at d1
          clear d0
          by_cases g1 : 0 ≤ lk ∧ lk < K
          · obtain ⟨l, rfl⟩ : ∃ l : Nat, lk = l := ⟨lk.toNat, by omega⟩
            have hl : l < K := by omega
            obtain ⟨hb, ho, rfl, hhb, e0⟩ := H1.out.get hl
            have e1 := (B5.out.cell (p := ⟨hb, ho + l, none⟩) hhb).trans e0
            have hhr : hb < w5.heap.size := Nat.lt_of_lt_of_le hhb B5.out.size
            obtain ⟨hv, hhv⟩ : ∃ v, s.hold l = v := ⟨_, rfl⟩
            rw [hhv] at e1
            clear e0 g1
            by_cases g2 : 0 ≤ hv ∧ hv < n
            · obtain ⟨u, rfl⟩ : ∃ u : Nat, hv = u := ⟨hv.toNat, by omega⟩
              have hu : u < n := by omega
              have hs : sucK n K s t = some u := suc_of hlk hl hhv hu
              have HI2 : Hid (itK n K s f (k + 1) = some u) := Lib.hid (by show (itK n K s f k).bind _ = _; rw [HIT.out]; exact hs)
              clear g2 hlk hhv hs
              by_cases huf : u = f
              · subst huf
                have HC := Lib.hid (cir_way hf (Nat.succ_pos k) HI2.out (fun i h1 h2 => HNO.out i h1 (by omega)) HLS.out)
                have hkn : k + 1 ≤ n := by
                  refine Classical.byContradiction fun g => ?_
                  exact no_cyc_far hf (by omega) HNO.out ⟨k, HI2.out⟩
                go_wp2_with fail
                go_ret
                have hl : (wayN n K s u (k + 1)).length = k + 1 := way_len _ _
                refine ⟨ra5, rc5, _, HC.out, by rw [hl]; exact hkn, by rw [hl]; rfl, ?_, B5.out⟩
                exact Shape.At.own (S := shI) O5.out (by rw [nums_len, hl])
              · have huf2 : ¬ (u : Int) = (f : Int) := by omega
                have HN2 := Lib.hid (fun i (h1 : 0 < i) (h2 : i ≤ k + 1) => show ¬ itK n K s f i = some f by
                  by_cases e : i = k + 1
                  · rw [e, HI2.out]
                    exact fun q => huf (Option.some.inj q)
                  · exact HNO.out i h1 (by omega))
                go_wp2_with fail
                go_roundw
                case rel => exact ⟨k + 1, u, ra5, rc5, by omega, by go_num, rfl, rfl, HI2, HN2, O5, B5⟩
                case measure => simp [intOf]; omega
            · have HL2 : Hid (∀ t, t < f + 1 → ¬ CycK n K s t) := Lib.hid fun t' ht' => by
                by_cases e : t' = f
                · subst e; exact no_cyc_stop hf HIT.out HNO.out (suc_none_h hlk (by rw [hhv]; exact g2))
                · exact HLS.out t' (by omega)
              clear hlk hhv
              by_cases g3 : hv < 0
              · go_wp2_with fail
                go_roundw
                case rel => exact ⟨f + 1, by omega, by go_num, HL2, B5⟩
                case measure => simp [intOf]; omega
              · have g4 : (n : Int) ≤ hv := by omega
                go_wp2_with fail
                go_roundw
                case rel => exact ⟨f + 1, by omega, by go_num, HL2, B5⟩
                case measure => simp [intOf]; omega
          · have HL2 : Hid (∀ t, t < f + 1 → ¬ CycK n K s t) := Lib.hid fun t' ht' => by
              by_cases e : t' = f
              · subst e; exact no_cyc_stop hf HIT.out HNO.out (suc_none_w (by rw [hlk]; exact g1))
              · exact HLS.out t' (by omega)
            clear hlk
            by_cases g3 : lk < 0
            · go_wp2_with fail
              go_roundw
              case rel => exact ⟨f + 1, by omega, by go_num, HL2, B5⟩
              case measure => simp [intOf]; omega
            · have g4 : (K : Int) ≤ lk := by omega
              go_wp2_with fail
              go_roundw
              case rel => exact ⟨f + 1, by omega, by go_num, HL2, B5⟩
              case measure => simp [intOf]; omega
        · obtain rfl : k = n + 1 := by omega
          have HL2 : Hid (∀ t, t < f + 1 → ¬ CycK n K s t) := Lib.hid fun t' ht' => by
            by_cases e : t' = f
            · subst e; exact no_cyc_far hf (Nat.le_succ _) HNO.out
            · exact HLS.out t' (by omega)
          go_wp2_with fail
          go_roundw
          case rel => exact ⟨f + 1, by omega, by go_num, HL2, HB⟩
          case measure => simp [intOf]; omega
    · obtain rfl : f = n := by omega
      go_wp2_with fail
      go_ret
      exact ⟨none, 0, [], cir_none HLS.out, Nat.zero_le _, rfl, Shape.At.nil _, HB.out⟩
end Go.Proofs.Ytcnnimhdnmmaoaa
