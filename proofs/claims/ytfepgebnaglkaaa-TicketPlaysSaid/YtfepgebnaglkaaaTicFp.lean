/- The walk of corebellref.FPlay: it answers what the plain run says. -/
import Derived.Test.YtfepgebnaglkaaaTicFt
namespace Go.Proofs.Ytfepgebnaglkaaa
open Go.RowKit

theorem built_l0 : Try.prog.built 25 [(2, .agg #[.int .i64 (-1), .int .i64 (-1), .int .i64 (-1), .int .i64 (-1), .int .i64 (-1), .int .i64 (-1), .int .i64 (-1), .int .i64 (-1)])] = some (lockRow l0) := by kernel_rfl
set_option maxHeartbeats 2000000 in
set_option maxRecDepth 100000 in
theorem fplay_core {ad : Option Addr} {cap n : Nat} {ops : List LopT} (Z : Array Value) (hz : ∀ w, (zeroValue 25).run Try.prog w = .ok (.agg Z) w) (HZ : Hid (Z.size = 18)) (w : World) (HA : Hid (shL.At w ad cap ops)) (hm : Hid (ops.length = n)) (hn : n ≤ 8796093022208) (r : RunT) (Hr : Hid (runT ops = r)) (R9 : Array Value) (HR9 : Hid (lockRow r.l = R9)) :
    Calls Try.prog 14 #[.slice ad n cap] w fun e w' => ∃ ra rc, e = .returned (.tuple #[.slice ra r.es.length rc, .agg R9]) ∧ shI.At w' ra rc r.es ∧ Below w.heap.size w w' := by
  obtain ⟨i0, hi, hz0, hz1, hz2⟩ := info_parts info_int
  obtain ⟨R0, hR0⟩ : ∃ R0, lockRow l0 = R0 := ⟨_, rfl⟩
  have HR0 := Lib.hid hR0
  have HB0 : Hid (Try.prog.built 25 [(2, .agg #[.int .i64 (-1), .int .i64 (-1), .int .i64 (-1), .int .i64 (-1), .int .i64 (-1), .int .i64 (-1), .int .i64 (-1), .int .i64 (-1)])] = some R0) := Lib.hid (by rw [← hR0]; exact built_l0)
  clear hR0
  have HS0 : Hid (R0.size = 18) := Lib.hid (by rw [← HR0.out]; rfl)
  have HA0 : Hid (R0.all (·.oneCell') = true) := Lib.hid (by rw [← HR0.out]; exact row_all _)
  have B0 := Lib.hid (below_alloc w (.cells Z 25))
  have Z0 := Lib.hid (heap_alloc_new w (.cells Z 25))
  have Z1 := Lib.hid (heap_under w (.cells Z 25) (.cells Z 25))
  have N1 := Lib.hid (heap_alloc2_new w (.cells Z 25) (.cells Z 25))
  have B1 := Lib.hid (below_two w (.cells Z 25) (.cells Z 25))
  go_enter Try.func14, Try.ntmps14
  go_wp2_with (first
    | (refine wpList_build_row rfl 25 _ rfl R0 ?_ ?_; focus (simp only [List.map_toArray, List.map_cons, List.map_nil]; exact HB0.out))
    | (refine wpList_store_row rfl 25 _ _ rfl (w.heap.size + 1) R0 rfl rfl 25 Z N1.out (by rw [size_lock, HS0.out]) (by rw [HS0.out, HZ.out]) HA0.out ?_; intro w2 hw2)
    | fail)
  have L2 : LpT w w2 (w.heap.size + 1) R0 Z [] (.slice none 0 0) :=
    ⟨B1.out.trans (hw2.below _ (by omega)), by omega, (hw2.other _ (by omega)).trans Z1.out, hw2.put, World.ownsRow_nil _ _ _ _⟩
  have H2 := Lib.hid L2
  clear L2 hw2 B1 Z1 N1 B0 Z0
  generalize w.heap.size + 1 = B at H2 ⊢
  go_loopw [5, 15] (fun v i wr => ∃ (k : Nat) (ra : Option Addr) (rc : Nat) (R : Array Value), k ≤ n ∧ i = .int .i64 k ∧ v = .slice ra (runT (ops.take k)).es.length rc ∧ Hid (lockRow (runT (ops.take k)).l = R) ∧ Hid (LpT w wr B R Z (runT (ops.take k)).es v)) (fun _ i _ => n - (intOf i).toNat)
  case atStart => exact ⟨0, none, 0, R0, Nat.zero_le _, rfl, rfl, HR0, H2⟩
  case round =>
    clear H2
    obtain ⟨k, ra, rc, R, hk, rfl, rfl, HR, HL⟩ := hrel
    have hfair := fair_run (ops.take k)
    have hel := es_len (ops.take k)
    rw [List.length_take] at hel
    obtain ⟨st, hst⟩ : ∃ st, runT (ops.take k) = st := ⟨_, rfl⟩
    have HN : ∀ o, ops[k]? = some o → runT (ops.take (k + 1)) = stepR st o := fun o ho => by rw [runT_take ho, hst]
    rw [hst] at HR HL hfair hel ⊢
    have HNX := Lib.hid HN
    clear HN
    have HS : Hid (R.size = 18) := Lib.hid (by rw [← HR.out]; rfl)
    have HAR : Hid (R.all (·.oneCell') = true) := Lib.hid (by rw [← HR.out]; exact row_all _)
    by_cases hkl : k < n
    · obtain ⟨o, ho⟩ : ∃ o, ops[k]? = some o := ⟨ops[k]'(by rw [hm.out]; exact hkl), List.getElem?_eq_getElem _⟩
      obtain ⟨K, C⟩ := o
      have hnx := HNX.out _ ho
      obtain ⟨b, off, rfl, hb, e0, e1⟩ := at_lop HA.out ho
      have g0 := (HL.out.b.cell (p := ⟨b, off + k * 2, none⟩) hb).trans e0
      have g1 := (HL.out.b.cell (p := ⟨b, off + k * 2 + 1, none⟩) hb).trans e1
      simp only at g0 g1
      have hbr : b < wr.heap.size := Nat.lt_of_lt_of_le hb HL.out.b.size
      have L3 := Lib.hid (HL.out.alloc (.cells #[.int .i64 K, .int .i64 C] 27))
      have hBr : B < wr.heap.size := HL.out.blt
      have O3 := Lib.hid (heap_alloc_new wr (.cells #[.int .i64 K, .int .i64 C] 27))
      clear e0 e1 ho HNX
      obtain ⟨⟨u', t, x⟩, hst2⟩ : ∃ q, stepT st.l K C = q := ⟨_, rfl⟩
      obtain ⟨R', hR'⟩ : ∃ R', lockRow u' = R' := ⟨_, rfl⟩
      have HR' := Lib.hid hR'
      have HS' : Hid (R'.size = 18) := Lib.hid (by rw [← hR']; rfl)
      have HAR' : Hid (R'.all (·.oneCell') = true) := Lib.hid (by rw [← hR']; exact row_all _)
      have hst3 := hst2
      unfold stepT at hst3
      rw [okT_true.2 hfair.rt] at hst3
      unfold stepR at hnx
      simp only at hnx
      by_cases he : errT true st.l K C = 0
      · obtain ⟨c, rfl, hop⟩ := errT_zero hfair.rt he
        have hc8 := hop.1
        rw [if_pos he, Int.toNat_natCast] at hst3 hnx
        simp only [Prod.mk.injEq] at hst3
        obtain ⟨rfl, ht, rfl⟩ := hst3
        obtain ⟨u, hu⟩ : ∃ u, st.l.inn c = u := ⟨_, rfl⟩
        have qu : R[10 + c]? = some (.bool u) := by rw [← HR.out, lockRow_inn _ hc8, hu]
        have HQU := Lib.hid qu
        have HST := Lib.hid hst2
        have hc8' : (c : Int) < 8 := by omega
        rw [ht, hu] at hnx
        clear ht hu hop hfair qu hst2 he hR'
        cases t with
        | false =>
          rw [if_neg (by rintro ⟨q, _⟩; cases q)] at hnx
          have HNX := Lib.hid hnx
          clear hnx
          go_wp2_with (first
            | (refine wpList_load_row rfl 25 _ rfl B rfl 25 R (0, 0) _ L3.out.r Try.underlying25 rfl (by rw [size_lock, HS.out]) ?_)
            | (go_at_call 10; (with_reducible refine (fstep_R st.l K c R R' false 0 _ HR HR' HST _).mono ?_); rintro e w4 ⟨rfl, hb⟩; have L4 := Lib.hid (L3.out.step hb); have O4 := Lib.hid (heap_step O3.out hb); clear hb)
            | (refine wpList_store_row rfl 25 _ _ rfl w4.heap.size R' rfl rfl 25 Z (heap_alloc_new w4 _) (by rw [size_lock, HS'.out]) (by rw [HS'.out, HZ.out]) HAR'.out ?_; intro w5 hw5; have C5 := Lib.hid ((below_alloc w4 (.cells Z 25)).trans (hw5.below _ (Nat.le_refl _))); have L5 := Lib.hid (L4.out.step C5.out); have O5 := Lib.hid (heap_step O4.out C5.out); have G5 := pair_cells O5.out; have P5 := Lib.hid hw5.put; have U5 := box_cells L5.out.r _ _ HQU.out; have hP := (Array.getElem?_eq_some_iff.1 P5.out).1;  clear hw5)
            | (refine wpList_load_row rfl 25 _ rfl w4.heap.size rfl 25 R' (0, 0) _ P5.out Try.underlying25 rfl (by rw [size_lock, HS'.out]) ?_)
            | (refine wpList_store_row rfl 25 _ _ rfl B R' rfl rfl 25 R L5.out.r (by rw [size_lock, HS'.out]) (by rw [HS.out, HS'.out]) HAR'.out ?_; intro w7 hw7; have L7 := Lib.hid (L5.out.set hw7); clear hw7)
            | fail)
          go_roundw
          case rel => exact ⟨k + 1, ra, rc, R', by omega, by go_num, by rw [HNX.out], by rw [HNX.out]; exact HR', by rw [HNX.out]; exact L7⟩
          case measure => simp [intOf]; omega
        | true =>
          cases u with
          | true =>
            rw [if_neg (by rintro ⟨_, q⟩; cases q)] at hnx
            have HNX := Lib.hid hnx
            clear hnx
            go_wp2_with (first
              | (refine wpList_load_row rfl 25 _ rfl B rfl 25 R (0, 0) _ L3.out.r Try.underlying25 rfl (by rw [size_lock, HS.out]) ?_)
              | (go_at_call 10; (with_reducible refine (fstep_R st.l K c R R' true 0 _ HR HR' HST _).mono ?_); rintro e w4 ⟨rfl, hb⟩; have L4 := Lib.hid (L3.out.step hb); have O4 := Lib.hid (heap_step O3.out hb); clear hb)
              | (refine wpList_store_row rfl 25 _ _ rfl w4.heap.size R' rfl rfl 25 Z (heap_alloc_new w4 _) (by rw [size_lock, HS'.out]) (by rw [HS'.out, HZ.out]) HAR'.out ?_; intro w5 hw5; have C5 := Lib.hid ((below_alloc w4 (.cells Z 25)).trans (hw5.below _ (Nat.le_refl _))); have L5 := Lib.hid (L4.out.step C5.out); have O5 := Lib.hid (heap_step O4.out C5.out); have G5 := pair_cells O5.out; have P5 := Lib.hid hw5.put; have U5 := box_cells L5.out.r _ _ HQU.out; have hP := (Array.getElem?_eq_some_iff.1 P5.out).1;  clear hw5)
              | (refine wpList_load_row rfl 25 _ rfl w4.heap.size rfl 25 R' (0, 0) _ P5.out Try.underlying25 rfl (by rw [size_lock, HS'.out]) ?_)
              | (refine wpList_store_row rfl 25 _ _ rfl B R' rfl rfl 25 R L5.out.r (by rw [size_lock, HS'.out]) (by rw [HS.out, HS'.out]) HAR'.out ?_; intro w7 hw7; have L7 := Lib.hid (L5.out.set hw7); clear hw7)
              | fail)
            go_roundw
            case rel => exact ⟨k + 1, ra, rc, R', by omega, by go_num, by rw [HNX.out], by rw [HNX.out]; exact HR', by rw [HNX.out]; exact L7⟩
            case measure => simp [intOf]; omega
          | false =>
            rw [if_pos ⟨rfl, rfl⟩] at hnx
            have HNX := Lib.hid hnx
            clear hnx
            go_wp2_with (first
              | (refine wpList_load_row rfl 25 _ rfl B rfl 25 R (0, 0) _ L3.out.r Try.underlying25 rfl (by rw [size_lock, HS.out]) ?_)
              | (go_at_call 10; (with_reducible refine (fstep_R st.l K c R R' true 0 _ HR HR' HST _).mono ?_); rintro e w4 ⟨rfl, hb⟩; have L4 := Lib.hid (L3.out.step hb); have O4 := Lib.hid (heap_step O3.out hb); clear hb)
              | (refine wpList_store_row rfl 25 _ _ rfl w4.heap.size R' rfl rfl 25 Z (heap_alloc_new w4 _) (by rw [size_lock, HS'.out]) (by rw [HS'.out, HZ.out]) HAR'.out ?_; intro w5 hw5; have C5 := Lib.hid ((below_alloc w4 (.cells Z 25)).trans (hw5.below _ (Nat.le_refl _))); have L5 := Lib.hid (L4.out.step C5.out); have O5 := Lib.hid (heap_step O4.out C5.out); have G5 := pair_cells O5.out; have P5 := Lib.hid hw5.put; have U5 := box_cells L5.out.r _ _ HQU.out; have hP := (Array.getElem?_eq_some_iff.1 P5.out).1; have L6 := Lib.hid (L5.out.alloc (.cells #[.int .i64 (c : Int)] 3)); have Y6 := Lib.hid (int_new w5 (c : Int)); have P6 := Lib.hid (heap_step P5.out (below_alloc w5 (.cells #[.int .i64 (c : Int)] 3))); clear hw5)
              | (at_builtin; refine wpList_append_at shI rfl _ _ 31 rfl w.heap.size 3 i0 _ 8 Try.underlying31 hi hz0 hz1 hz2 rfl (.slice ra st.es.length rc) st.es [(c : Int)] rfl L6.out.o (some ⟨w5.heap.size, 0, none⟩) 1 1 rfl (Lib.hid rfl) Y6.out ?h63 ?hby ?hba ?_)
              | (refine wpList_load_row rfl 25 _ rfl w4.heap.size rfl 25 R' (0, 0) _ P5.out Try.underlying25 rfl (by rw [size_lock, HS'.out]) ?_)
              | (refine wpList_store_row rfl 25 _ _ rfl B R' rfl rfl 25 R L5.out.r (by rw [size_lock, HS'.out]) (by rw [HS.out, HS'.out]) HAR'.out ?_; intro w7 hw7; have L7 := Lib.hid (L5.out.set hw7); clear hw7)
              | fail)
            case h63 => unfold maxLen; omega
            case hby => omega
            case hba => have := L5.out.b.size; simp; omega
            intro ra' rc' w9 own9 grow9 _
            have L9 := Lib.hid (L6.out.grown grow9 (es' := st.es ++ [(c : Int)]) (by rw [List.length_append, List.length_singleton]; exact own9))
            have P9 : Hid (w9.heap[w4.heap.size]? = some (.cells R' 25 (0, 0))) := Lib.hid ((grow9.block _ (Array.getElem?_eq_some_iff.1 P6.out).1 (fun e => (own_ne L6.out.o P6.out (by decide) _ e.symm) rfl)).trans P6.out)
            clear own9 grow9
            go_wp2_with (first
              | (refine wpList_load_row rfl 25 _ rfl w4.heap.size rfl 25 R' (0, 0) _ P9.out Try.underlying25 rfl (by rw [size_lock, HS'.out]) ?_)
              | (refine wpList_store_row rfl 25 _ _ rfl B R' rfl rfl 25 R L9.out.r (by rw [size_lock, HS'.out]) (by rw [HS.out, HS'.out]) HAR'.out ?_; intro w10 hw10; have L10 := Lib.hid (L9.out.set hw10); clear hw10)
              | fail)
            go_roundw
            case rel => exact ⟨k + 1, ra', rc', R', by omega, by go_num, by rw [HNX.out, List.length_append, List.length_singleton], by rw [HNX.out]; exact HR', by rw [HNX.out]; exact L10⟩
            case measure => simp [intOf]; omega
      · have hnx2 : runT (ops.take (k + 1)) = st := by rw [hnx, if_neg he]
        rw [if_neg he] at hst3
        simp only [Prod.mk.injEq] at hst3
        obtain ⟨rfl, rfl, hx⟩ := hst3
        have hx1 : (x == 0) = false := by rw [← hx]; simpa using he
        have HST := Lib.hid hst2
        have HNX := Lib.hid hnx2
        clear hnx hnx2 hst2 he hfair hR' hx
        go_wp2_with (first
          | (refine wpList_load_row rfl 25 _ rfl B rfl 25 R (0, 0) _ L3.out.r Try.underlying25 rfl (by rw [size_lock, HS.out]) ?_)
          | (go_at_call 10; (with_reducible refine (fstep_R st.l K C R R' _ x _ HR HR' HST _).mono ?_); rintro e w4 ⟨rfl, hb⟩; have L4 := Lib.hid (L3.out.step hb); clear hb)
          | (refine wpList_store_row rfl 25 _ _ rfl w4.heap.size R' rfl rfl 25 Z (heap_alloc_new w4 _) (by rw [size_lock, HS'.out]) (by rw [HS'.out, HZ.out]) HAR'.out ?_; intro w5 hw5; have L5 := Lib.hid (L4.out.step ((below_alloc w4 (.cells Z 25)).trans (hw5.below _ (Nat.le_refl _)))); clear hw5)
          | fail)
        go_roundw
        case rel => exact ⟨k + 1, ra, rc, R, by omega, by go_num, by rw [HNX.out], by rw [HNX.out]; exact HR, by rw [HNX.out]; exact L5⟩
        case measure => simp [intOf]; omega
    · obtain rfl : k = n := by omega
      have hre : st = r := by rw [← hst, ← hm.out, runT_all]; exact Hr.out
      subst hre
      have hRR : R = R9 := HR.out.symm.trans HR9.out
      subst hRR
      have A4 : An2 w wr B R := ⟨HL.out.b, HL.out.r, Z, HZ.out, HL.out.z⟩
      have OW := Lib.hid HL.out.o
      have HBL := Lib.hid HL.out.lt
      have RR := Lib.hid HL.out.z
      clear HNX HL hfair hst Hr HR9 HR0 HS0 HA0 HB0 hkl
      go_wp2_with fail
      refine wp_region_noPanic ?_
      refine wp_region_held_drew (S := fun w' => An2 w w' B R) (by kernel_rfl) ⟨A4.b.drew, A4.r, A4.z⟩ (fun hHeld => ?_)
      refine wpAnyH_take (i := 0) (v := ?_) rfl (by kernel_rfl) (by kernel_rfl) (by kernel_rfl) (fun _ _ _ h => h) (Or.inl ⟨by rfl, ?_⟩) (by assumption) ?_
      rotate_left
      · (intro w hSw; (try dsimp only at hSw); go_simp; try with_reducible rfl)
      simp only [List.getElem_toArray, List.getElem_cons_zero, Act.put, List.setIfInBounds_toArray, List.set_cons_zero, List.set_cons_succ]
      refine wpAnyH_take (i := 1) (v := .agg R) rfl (by kernel_rfl) (by kernel_rfl) (by kernel_rfl) (fun _ _ _ h => h) (yieldsIf_load_row rfl 25 _ rfl (B) rfl 25 R (0, 0) _ (fun _ h => h.r) Try.underlying25 rfl (by rw [size_lock, HS.out])) (by assumption) ?_
      simp only [List.getElem_toArray, List.getElem_cons_zero, List.getElem_cons_succ, Act.put, List.setIfInBounds_toArray, List.set_cons_zero, List.set_cons_succ]
      refine wpAnyH_take (i := 2) (v := ?_) rfl (by kernel_rfl) (by kernel_rfl) (by kernel_rfl) (fun _ _ _ h => h) (Or.inl ⟨by rfl, ?_⟩) (by assumption) ?_
      rotate_left
      · (intro w hSw; (try dsimp only at hSw); go_simp; try with_reducible rfl)
      simp only [List.getElem_toArray, List.getElem_cons_zero, List.getElem_cons_succ, Act.put, List.setIfInBounds_toArray, List.set_cons_zero, List.set_cons_succ]
      refine wpAnyH_ready (rs := [3]) (by kernel_rfl) (by simp) ?_
      refine AllReadyH.cons rfl (fun K hK => ?_) AllReadyH.nil
      rw [if_pos (by rfl)]
      refine wp_store_row 25 _ _ rfl w.heap.size R rfl rfl 25 Z RR.out (by rw [size_lock, HS.out]) (by rw [HS.out, HZ.out]) HAR.out ?_
      have hw5 := setR_row wr.drew w.heap.size Z R 25 RR.out
      have hlt := HBL.out
      have O5 := own_heap OW.out.drew (w' := wr.drew.setRow w.heap.size R) fun g o hg ho => (hw5.other g (own_ne OW.out RR.out (by decide) g hg)).trans ho
      generalize wr.drew.setRow w.heap.size R = w5 at hw5 O5 ⊢
      have A5 : An2 w w5 B R := ⟨hHeld.b.trans (hw5.below _ (Nat.le_refl _)), (hw5.other _ (by omega)).trans hHeld.r, R, HS.out, hw5.put⟩
      have P5 := Lib.hid hw5.put
      refine hK.out _ _ A5 (fun hHeld => ?_)
      simp only [List.getElem_toArray, List.getElem_cons_zero, List.getElem_cons_succ, Act.put]
      refine wpAnyH_done (by kernel_rfl) ?_ _
      refine NoPanic.normal ?_
      go_wp2_with fail
      refine bodyPost_ret (results_tmp1_row rfl _ _ w.heap.size 25 R (0, 0) _ rfl P5.out Try.underlying25 rfl (by rw [size_lock, HS.out])) rfl ?_
      obtain ⟨ad2, cap2, e2, at2⟩ := Shape.At.of_row O5
      simp only [Value.slice.injEq, true_and] at e2
      obtain ⟨rfl, rfl⟩ := e2
      exact ⟨_, _, rfl, at2, A5.b⟩
theorem fplay_R {ad : Option Addr} {cap n : Nat} {ops : List LopT} (w : World) (HA : Hid (shL.At w ad cap ops)) (hm : Hid (ops.length = n)) (hn : n ≤ 8796093022208) (r : RunT) (Hr : Hid (runT ops = r)) (R9 : Array Value) (HR9 : Hid (lockRow r.l = R9)) :
    Calls Try.prog 14 #[.slice ad n cap] w fun e w' => ∃ ra rc, e = .returned (.tuple #[.slice ra r.es.length rc, .agg R9]) ∧ shI.At w' ra rc r.es ∧ Below w.heap.size w w' :=
  fplay_core _ (zero_of_info info_lock).1 (Lib.hid rfl) w HA hm hn r Hr R9 HR9
end Go.Proofs.Ytfepgebnaglkaaa
