/- The walk of ticket.Play: it answers what the plain run says. -/
import Derived.Test.YtfepgebnaglkaaaTicPl
namespace Go.Proofs.Ytfepgebnaglkaaa
open Go.RowKit

theorem runT_take {ops : List LopT} {k : Nat} {o : LopT} (h : ops[k]? = some o) : runT (ops.take (k + 1)) = stepR (runT (ops.take k)) o := by
  rw [List.take_add_one, h]
  unfold runT
  rw [List.foldl_append]
  rfl
theorem runT_all (ops : List LopT) : runT (ops.take ops.length) = runT ops := by rw [List.take_length]
theorem es_len (ops : List LopT) : (runT ops).es.length ≤ ops.length := by
  unfold runT
  suffices h : ∀ (l : List LopT) (r : RunT), (l.foldl stepR r).es.length ≤ r.es.length + l.length by
    have := h ops r0
    simpa [r0] using this
  intro l
  induction l with
  | nil => exact fun r => Nat.le_refl _
  | cons o l ih =>
    intro r
    refine Nat.le_trans (ih _) ?_
    have : (stepR r o).es.length ≤ r.es.length + 1 := by
      unfold stepR
      split
      · simp only
        split
        · simp
        · omega
      · omega
    simp only [List.length_cons]
    omega
/-- What is held while the answer is laid. -/
structure An2 (w wx : World) (B : Nat) (R : Array Value) : Prop where
  b : Below w.heap.size w wx
  r : wx.heap[B]? = some (.cells R 25 (0, 0))
  z : ∃ C : Array Value, C.size = 18 ∧ wx.heap[w.heap.size]? = some (.cells C 25 (0, 0))
theorem int_new (w : World) (x : Int) : shI.At (w.alloc (.cells #[.int .i64 x] 3)) (some ⟨w.heap.size, 0, none⟩) 1 [x] :=
  ⟨fun e => (nomatch e), fun _ => ⟨w.heap.size, 0, rfl, by simp, fun k hk => by
    have h0 : k = 0 := by simpa [shI] using hk
    subst h0
    rw [cell_of_row _ _ _ _ _ _ (heap_alloc_new w _)]
    rfl⟩⟩
theorem pair_cells {w : World} {b : Nat} {x y : Value} {t : TypeId} (h : w.heap[b]? = some (.cells #[x, y] t (0, 0))) : w.cell? ⟨b, 0, none⟩ = some x ∧ w.cell? ⟨b, 1, none⟩ = some y := by
  refine ⟨?_, ?_⟩ <;> (rw [cell_of_row _ _ _ _ _ _ h]; rfl)
theorem new_L (w : World) (R : Array Value) (HR : Hid (lockRow l0 = R)) : Calls Try.prog 16 #[] w fun e w' => e = .returned (.agg R) ∧ Below w.heap.size w w' := by
  rw [← HR.out]; exact new_R w

set_option maxHeartbeats 2000000 in
set_option maxRecDepth 100000 in
theorem play_core {ad : Option Addr} {cap n : Nat} {ops : List LopT} (Z : Array Value) (hz : ∀ w, (zeroValue 25).run Try.prog w = .ok (.agg Z) w) (HZ : Hid (Z.size = 18)) (w : World) (HA : Hid (shL.At w ad cap ops)) (hm : Hid (ops.length = n)) (hn : n ≤ 8796093022208) (r : RunT) (Hr : Hid (runT ops = r)) (R9 : Array Value) (HR9 : Hid (lockRow r.l = R9)) :
    Calls Try.prog 13 #[.slice ad n cap] w fun e w' => ∃ ra rc, e = .returned (.tuple #[.slice ra r.es.length rc, .agg R9]) ∧ shI.At w' ra rc r.es ∧ Below w.heap.size w w' := by
  obtain ⟨i0, hi, hz0, hz1, hz2⟩ := info_parts info_int
  obtain ⟨R0, hR0⟩ : ∃ R0, lockRow l0 = R0 := ⟨_, rfl⟩
  have HR0 := Lib.hid hR0
  clear hR0
  have HS0 : Hid (R0.size = 18) := Lib.hid (by rw [← HR0.out]; rfl)
  have HA0 : Hid (R0.all (·.oneCell') = true) := Lib.hid (by rw [← HR0.out]; exact row_all _)
  have B0 := Lib.hid (below_alloc w (.cells Z 25))
  have Z0 := Lib.hid (heap_alloc_new w (.cells Z 25))
  go_enter Try.func13, Try.ntmps13
  go_wp2_with (first
    | (go_at_call 16; (with_reducible refine (new_L _ R0 HR0).mono ?_); rintro e w1 ⟨rfl, hb⟩; have B1 := Lib.hid (pstep B0.out hb); have Z1 := Lib.hid (heap_step Z0.out hb); have S1 := Lib.hid hb.size; clear hb)
    | (refine wpList_store_row rfl 25 _ _ rfl w1.heap.size R0 rfl rfl 25 Z (heap_alloc_new w1 _) (by rw [size_lock, HS0.out]) (by rw [HS0.out, HZ.out]) HA0.out ?_; intro w2 hw2)
    | fail)
  have L2 : LpT w w2 w1.heap.size R0 Z [] (.slice none 0 0) := by
    have h1 := S1.out
    simp only [World.size_alloc] at h1
    refine ⟨(pstep B1.out (below_alloc w1 _)).trans (hw2.below _ (by omega)), by omega, (hw2.other _ (by omega)).trans (heap_step Z1.out (below_alloc w1 _)), hw2.put, World.ownsRow_nil _ _ _ _⟩
  have H2 := Lib.hid L2
  clear L2 hw2 B1 Z1 S1 B0 Z0
  generalize w1.heap.size = B at H2 ⊢
  go_loopw [5, 12] (fun v i wr => ∃ (k : Nat) (ra : Option Addr) (rc : Nat) (R : Array Value), k ≤ n ∧ i = .int .i64 k ∧ v = .slice ra (runT (ops.take k)).es.length rc ∧ Hid (lockRow (runT (ops.take k)).l = R) ∧ Hid (LpT w wr B R Z (runT (ops.take k)).es v)) (fun _ i _ => n - (intOf i).toNat)
  case atStart => exact ⟨0, none, 0, R0, Nat.zero_le _, rfl, rfl, HR0, H2⟩
  case round =>
    clear H2
    obtain ⟨k, ra, rc, R, hk, rfl, rfl, HR, HL⟩ := hrel
    have hfair := fair_run (ops.take k)
    have hel := es_len (ops.take k)
    rw [List.length_take] at hel
    obtain ⟨st, hst⟩ : ∃ st, runT (ops.take k) = st := ⟨_, rfl⟩
    have HN : ∀ o, ops[k]? = some o → runT (ops.take (k + 1)) = stepR st o := fun o ho => by rw [runT_take ho, hst]
    rw [hst] at HR HL hfair hel ⊢
    have HNX := Lib.hid HN
    clear HN
    have HS : Hid (R.size = 18) := Lib.hid (by rw [← HR.out]; rfl)
    have HAR : Hid (R.all (·.oneCell') = true) := Lib.hid (by rw [← HR.out]; exact row_all _)
    by_cases hkl : k < n
    · obtain ⟨o, ho⟩ : ∃ o, ops[k]? = some o := ⟨ops[k]'(by rw [hm.out]; exact hkl), List.getElem?_eq_getElem _⟩
      obtain ⟨K, C⟩ := o
      have hnx := HNX.out _ ho
      obtain ⟨b, off, rfl, hb, e0, e1⟩ := at_lop HA.out ho
      have g0 := (HL.out.b.cell (p := ⟨b, off + k * 2, none⟩) hb).trans e0
      have g1 := (HL.out.b.cell (p := ⟨b, off + k * 2 + 1, none⟩) hb).trans e1
      simp only at g0 g1
      have hbr : b < wr.heap.size := Nat.lt_of_lt_of_le hb HL.out.b.size
      have L3 := Lib.hid (HL.out.alloc (.cells #[.int .i64 K, .int .i64 C] 27))
      have hBr : B < wr.heap.size := HL.out.blt
      have O3 := Lib.hid (heap_alloc_new wr (.cells #[.int .i64 K, .int .i64 C] 27))
      have hst2 := fun W : World => store_last 25 Z R (by rw [HZ.out, HS.out]) (fun v hv => Array.all_eq_true_iff_forall_mem.1 HAR.out v (by simpa using hv)) W
      clear e0 e1 ho HNX
      obtain ⟨x, hx⟩ : ∃ x, errT true st.l K C = x := ⟨_, rfl⟩
      by_cases hx0 : x = 0
      · subst hx0
        obtain ⟨c, rfl, hop⟩ := errT_zero hfair.rt hx
        have hc8 := hop.1
        obtain ⟨R', hR'⟩ : ∃ R', lockRow (newT st.l K c) = R' := ⟨_, rfl⟩
        obtain ⟨t, ht⟩ : ∃ t, inT st.l K c = t := ⟨_, rfl⟩
        obtain ⟨u, hu⟩ : ∃ u, st.l.inn c = u := ⟨_, rfl⟩
        have qi : R'[10 + c]? = some (.bool t) := by rw [← hR', lockRow_inn _ hc8, ← ht]; rfl
        have qu : R[10 + c]? = some (.bool u) := by rw [← HR.out, lockRow_inn _ hc8, hu]
        have HS' : Hid (R'.size = 18) := Lib.hid (by rw [← hR']; rfl)
        have HAR' : Hid (R'.all (·.oneCell') = true) := Lib.hid (by rw [← hR']; exact row_all _)
        have HX := Lib.hid hx
        have HR' := Lib.hid hR'
        have HRT := Lib.hid hfair.rt
        have HOP := Lib.hid hop
        unfold stepR at hnx
        simp only [hx, if_true, Int.toNat_natCast, ht, hu] at hnx
        clear hx hR' ht hu hop hfair
        cases t with
        | false =>
          rw [if_neg (by rintro ⟨q, _⟩; cases q)] at hnx
          have HNX := Lib.hid hnx
          clear hnx
          go_wp2_with (first
            | (refine wpList_load_row rfl 25 _ rfl B rfl 25 R (0, 0) _ L3.out.r Try.underlying25 rfl (by rw [size_lock, HS.out]) ?_)
            | (refine wpList_load_row rfl 25 _ rfl B rfl 25 R (0, 0) _ L4.out.r Try.underlying25 rfl (by rw [size_lock, HS.out]) ?_)
            | (refine wpList_load_row rfl 25 _ rfl B rfl 25 R (0, 0) _ L5.out.r Try.underlying25 rfl (by rw [size_lock, HS.out]) ?_)
            | (refine wpList_store_row rfl 25 _ _ rfl B R' rfl rfl 25 R L6.out.r (by rw [size_lock, HS'.out]) (by rw [HS.out, HS'.out]) HAR'.out ?_; intro w7 hw7; have L7 := Lib.hid (L6.out.set hw7); have O7 := Lib.hid ((hw7.other _ (by omega)).trans O6.out); have G7 := pair_cells O7.out; have P7 := Lib.hid ((hw7.other _ (by have := L4.out.blt; omega)).trans P6.out); have I7 : w7.cell? ⟨B, 10 + c, none⟩ = some (.bool false) := (by rw [cell_of_row _ _ _ _ _ _ L7.out.r]; exact qi); have U7 : w7.cell? ⟨w4.heap.size, 10 + c, none⟩ = some (.bool u) := (by rw [cell_of_row _ _ _ _ _ _ P7.out]; exact qu); have L8 := Lib.hid (L7.out.alloc (.cells #[.int .i64 (c : Int)] 3)); have Y8 := Lib.hid (int_new w7 (c : Int)); clear hw7)
            | (go_at_call 18; (with_reducible refine (check_R st.l K c 0 R HR _ HX).mono ?_); rintro e w4 ⟨rfl, hb⟩; have L4 := Lib.hid (L3.out.step hb); have O4 := Lib.hid (heap_step O3.out hb); have G4 := pair_cells O4.out; have S4 := Lib.hid hb.size; have L5 := Lib.hid (L4.out.alloc (.cells R 25)); have O5 := Lib.hid (heap_step O4.out (below_alloc w4 (.cells R 25))); have P5 := Lib.hid (heap_alloc_new w4 (.cells R 25)); have G5 := pair_cells O5.out; clear hb)
            | (go_at_call 19; (with_reducible refine (perform_Y st.l K c c (Lib.hid rfl) R R' HR HR' HRT HOP _).mono ?_); rintro e w6 ⟨rfl, hb⟩; have L6 := Lib.hid (L5.out.step hb); have O6 := Lib.hid (heap_step O5.out hb); have P6 := Lib.hid (heap_step P5.out hb); clear hb)
            | fail)
          go_roundw
          case rel => exact ⟨k + 1, ra, rc, R', by omega, by go_num, by rw [HNX.out], by rw [HNX.out]; exact HR', by rw [HNX.out]; exact L7⟩
          case measure => simp [intOf]; omega
        | true =>
          cases u with
          | true =>
            rw [if_neg (by rintro ⟨_, q⟩; cases q)] at hnx
            have HNX := Lib.hid hnx
            clear hnx
            go_wp2_with (first
              | (refine wpList_load_row rfl 25 _ rfl B rfl 25 R (0, 0) _ L3.out.r Try.underlying25 rfl (by rw [size_lock, HS.out]) ?_)
              | (refine wpList_load_row rfl 25 _ rfl B rfl 25 R (0, 0) _ L4.out.r Try.underlying25 rfl (by rw [size_lock, HS.out]) ?_)
              | (refine wpList_load_row rfl 25 _ rfl B rfl 25 R (0, 0) _ L5.out.r Try.underlying25 rfl (by rw [size_lock, HS.out]) ?_)
              | (refine wpList_store_row rfl 25 _ _ rfl B R' rfl rfl 25 R L6.out.r (by rw [size_lock, HS'.out]) (by rw [HS.out, HS'.out]) HAR'.out ?_; intro w7 hw7; have L7 := Lib.hid (L6.out.set hw7); have O7 := Lib.hid ((hw7.other _ (by omega)).trans O6.out); have G7 := pair_cells O7.out; have P7 := Lib.hid ((hw7.other _ (by have := L4.out.blt; omega)).trans P6.out); have I7 : w7.cell? ⟨B, 10 + c, none⟩ = some (.bool true) := (by rw [cell_of_row _ _ _ _ _ _ L7.out.r]; exact qi); have U7 : w7.cell? ⟨w4.heap.size, 10 + c, none⟩ = some (.bool true) := (by rw [cell_of_row _ _ _ _ _ _ P7.out]; exact qu); have L8 := Lib.hid (L7.out.alloc (.cells #[.int .i64 (c : Int)] 3)); have Y8 := Lib.hid (int_new w7 (c : Int)); clear hw7)
              | (go_at_call 18; (with_reducible refine (check_R st.l K c 0 R HR _ HX).mono ?_); rintro e w4 ⟨rfl, hb⟩; have L4 := Lib.hid (L3.out.step hb); have O4 := Lib.hid (heap_step O3.out hb); have G4 := pair_cells O4.out; have S4 := Lib.hid hb.size; have L5 := Lib.hid (L4.out.alloc (.cells R 25)); have O5 := Lib.hid (heap_step O4.out (below_alloc w4 (.cells R 25))); have P5 := Lib.hid (heap_alloc_new w4 (.cells R 25)); have G5 := pair_cells O5.out; clear hb)
              | (go_at_call 19; (with_reducible refine (perform_Y st.l K c c (Lib.hid rfl) R R' HR HR' HRT HOP _).mono ?_); rintro e w6 ⟨rfl, hb⟩; have L6 := Lib.hid (L5.out.step hb); have O6 := Lib.hid (heap_step O5.out hb); have P6 := Lib.hid (heap_step P5.out hb); clear hb)
              | fail)
            go_roundw
            case rel => exact ⟨k + 1, ra, rc, R', by omega, by go_num, by rw [HNX.out], by rw [HNX.out]; exact HR', by rw [HNX.out]; exact L7⟩
            case measure => simp [intOf]; omega
          | false =>
            rw [if_pos ⟨rfl, rfl⟩] at hnx
            have HNX := Lib.hid hnx
            clear hnx
            go_wp2_with (first
              | (refine wpList_load_row rfl 25 _ rfl B rfl 25 R (0, 0) _ L3.out.r Try.underlying25 rfl (by rw [size_lock, HS.out]) ?_)
              | (refine wpList_load_row rfl 25 _ rfl B rfl 25 R (0, 0) _ L4.out.r Try.underlying25 rfl (by rw [size_lock, HS.out]) ?_)
              | (refine wpList_load_row rfl 25 _ rfl B rfl 25 R (0, 0) _ L5.out.r Try.underlying25 rfl (by rw [size_lock, HS.out]) ?_)
              | (refine wpList_store_row rfl 25 _ _ rfl B R' rfl rfl 25 R L6.out.r (by rw [size_lock, HS'.out]) (by rw [HS.out, HS'.out]) HAR'.out ?_; intro w7 hw7; have L7 := Lib.hid (L6.out.set hw7); have O7 := Lib.hid ((hw7.other _ (by omega)).trans O6.out); have G7 := pair_cells O7.out; have P7 := Lib.hid ((hw7.other _ (by have := L4.out.blt; omega)).trans P6.out); have I7 : w7.cell? ⟨B, 10 + c, none⟩ = some (.bool true) := (by rw [cell_of_row _ _ _ _ _ _ L7.out.r]; exact qi); have U7 : w7.cell? ⟨w4.heap.size, 10 + c, none⟩ = some (.bool false) := (by rw [cell_of_row _ _ _ _ _ _ P7.out]; exact qu); have L8 := Lib.hid (L7.out.alloc (.cells #[.int .i64 (c : Int)] 3)); have Y8 := Lib.hid (int_new w7 (c : Int)); clear hw7)
              | (go_at_call 18; (with_reducible refine (check_R st.l K c 0 R HR _ HX).mono ?_); rintro e w4 ⟨rfl, hb⟩; have L4 := Lib.hid (L3.out.step hb); have O4 := Lib.hid (heap_step O3.out hb); have G4 := pair_cells O4.out; have S4 := Lib.hid hb.size; have L5 := Lib.hid (L4.out.alloc (.cells R 25)); have O5 := Lib.hid (heap_step O4.out (below_alloc w4 (.cells R 25))); have P5 := Lib.hid (heap_alloc_new w4 (.cells R 25)); have G5 := pair_cells O5.out; clear hb)
              | (go_at_call 19; (with_reducible refine (perform_Y st.l K c c (Lib.hid rfl) R R' HR HR' HRT HOP _).mono ?_); rintro e w6 ⟨rfl, hb⟩; have L6 := Lib.hid (L5.out.step hb); have O6 := Lib.hid (heap_step O5.out hb); have P6 := Lib.hid (heap_step P5.out hb); clear hb)
              | (at_builtin; refine wpList_append_at shI rfl _ _ 31 rfl w.heap.size 3 i0 _ 8 Try.underlying31 hi hz0 hz1 hz2 rfl (.slice ra st.es.length rc) st.es [(c : Int)] rfl L8.out.o (some ⟨w7.heap.size, 0, none⟩) 1 1 rfl (Lib.hid rfl) Y8.out ?h63 ?hby ?hba ?_)
              | fail)
            case h63 => unfold maxLen; omega
            case hby => omega
            case hba => have := L7.out.b.size; simp; omega
            intro ra' rc' w9 own9 grow9 _
            have L9 := Lib.hid (L8.out.grown grow9 (es' := st.es ++ [(c : Int)]) (by rw [List.length_append, List.length_singleton]; exact own9))
            clear own9 grow9
            go_wp2_with fail
            go_roundw
            case rel => exact ⟨k + 1, ra', rc', R', by omega, by go_num, by rw [HNX.out, List.length_append, List.length_singleton], by rw [HNX.out]; exact HR', by rw [HNX.out]; exact L9⟩
            case measure => simp [intOf]; omega
      · have hnx2 : runT (ops.take (k + 1)) = st := by
          rw [hnx]
          unfold stepR
          rw [if_neg (by simp only [hx]; exact hx0)]
        have HX := Lib.hid hx
        have HNX := Lib.hid hnx2
        have hx1 : (x != 0) = true := by simpa using hx0
        clear hx hnx hnx2 hfair
        go_wp2_with (first
          | (refine wpList_load_row rfl 25 _ rfl B rfl 25 R (0, 0) _ L3.out.r Try.underlying25 rfl (by rw [size_lock, HS.out]) ?_)
          | (go_at_call 18; (with_reducible refine (check_R st.l K C x R HR _ HX).mono ?_); rintro e w4 ⟨rfl, hb⟩; have L4 := Lib.hid (L3.out.step hb); clear hb)
          | fail)
        go_roundw
        case rel => exact ⟨k + 1, ra, rc, R, by omega, by go_num, by rw [HNX.out], by rw [HNX.out]; exact HR, by rw [HNX.out]; exact L4⟩
        case measure => simp [intOf]; omega
    · obtain rfl : k = n := by omega
      have hre : st = r := by rw [← hst, ← hm.out, runT_all]; exact Hr.out
      subst hre
      have hRR : R = R9 := HR.out.symm.trans HR9.out
      subst hRR
      have A4 : An2 w wr B R := ⟨HL.out.b, HL.out.r, Z, HZ.out, HL.out.z⟩
      have OW := Lib.hid HL.out.o
      have HBL := Lib.hid HL.out.lt
      have RR := Lib.hid HL.out.z
      clear HNX HL hfair hst Hr HR9 HR0 HS0 HA0 hkl
      go_wp2_with fail
      refine wp_region_noPanic ?_
      refine wp_region_held_drew (S := fun w' => An2 w w' B R) (by kernel_rfl) ⟨A4.b.drew, A4.r, A4.z⟩ (fun hHeld => ?_)
      refine wpAnyH_take (i := 0) (v := ?_) rfl (by kernel_rfl) (by kernel_rfl) (by kernel_rfl) (fun _ _ _ h => h) (Or.inl ⟨by rfl, ?_⟩) (by assumption) ?_
      rotate_left
      · (intro w hSw; (try dsimp only at hSw); go_simp; try with_reducible rfl)
      simp only [List.getElem_toArray, List.getElem_cons_zero, Act.put, List.setIfInBounds_toArray, List.set_cons_zero, List.set_cons_succ]
      refine wpAnyH_take (i := 1) (v := .agg R) rfl (by kernel_rfl) (by kernel_rfl) (by kernel_rfl) (fun _ _ _ h => h) (yieldsIf_load_row rfl 25 _ rfl (B) rfl 25 R (0, 0) _ (fun _ h => h.r) Try.underlying25 rfl (by rw [size_lock, HS.out])) (by assumption) ?_
      simp only [List.getElem_toArray, List.getElem_cons_zero, List.getElem_cons_succ, Act.put, List.setIfInBounds_toArray, List.set_cons_zero, List.set_cons_succ]
      refine wpAnyH_take (i := 2) (v := ?_) rfl (by kernel_rfl) (by kernel_rfl) (by kernel_rfl) (fun _ _ _ h => h) (Or.inl ⟨by rfl, ?_⟩) (by assumption) ?_
      rotate_left
      · (intro w hSw; (try dsimp only at hSw); go_simp; try with_reducible rfl)
      simp only [List.getElem_toArray, List.getElem_cons_zero, List.getElem_cons_succ, Act.put, List.setIfInBounds_toArray, List.set_cons_zero, List.set_cons_succ]
      refine wpAnyH_ready (rs := [3]) (by kernel_rfl) (by simp) ?_
      refine AllReadyH.cons rfl (fun K hK => ?_) AllReadyH.nil
      rw [if_pos (by rfl)]
      refine wp_store_row 25 _ _ rfl w.heap.size R rfl rfl 25 Z RR.out (by rw [size_lock, HS.out]) (by rw [HS.out, HZ.out]) HAR.out ?_
      have hw5 := setR_row wr.drew w.heap.size Z R 25 RR.out
      have hlt := HBL.out
      have O5 := own_heap OW.out.drew (w' := wr.drew.setRow w.heap.size R) fun g o hg ho => (hw5.other g (own_ne OW.out RR.out (by decide) g hg)).trans ho
      generalize wr.drew.setRow w.heap.size R = w5 at hw5 O5 ⊢
      have A5 : An2 w w5 B R := ⟨hHeld.b.trans (hw5.below _ (Nat.le_refl _)), (hw5.other _ (by omega)).trans hHeld.r, R, HS.out, hw5.put⟩
      have P5 := Lib.hid hw5.put
      refine hK.out _ _ A5 (fun hHeld => ?_)
      simp only [List.getElem_toArray, List.getElem_cons_zero, List.getElem_cons_succ, Act.put]
      refine wpAnyH_done (by kernel_rfl) ?_ _
      refine NoPanic.normal ?_
      go_wp2_with fail
      refine bodyPost_ret (results_tmp1_row rfl _ _ w.heap.size 25 R (0, 0) _ rfl P5.out Try.underlying25 rfl (by rw [size_lock, HS.out])) rfl ?_
      obtain ⟨ad2, cap2, e2, at2⟩ := Shape.At.of_row O5
      simp only [Value.slice.injEq, true_and] at e2
      obtain ⟨rfl, rfl⟩ := e2
      exact ⟨_, _, rfl, at2, A5.b⟩
theorem play_R {ad : Option Addr} {cap n : Nat} {ops : List LopT} (w : World) (HA : Hid (shL.At w ad cap ops)) (hm : Hid (ops.length = n)) (hn : n ≤ 8796093022208) (r : RunT) (Hr : Hid (runT ops = r)) (R9 : Array Value) (HR9 : Hid (lockRow r.l = R9)) :
    Calls Try.prog 13 #[.slice ad n cap] w fun e w' => ∃ ra rc, e = .returned (.tuple #[.slice ra r.es.length rc, .agg R9]) ∧ shI.At w' ra rc r.es ∧ Below w.heap.size w w' :=
  play_core _ (zero_of_info info_lock).1 (Lib.hid rfl) w HA hm hn r Hr R9 HR9
end Go.Proofs.Ytfepgebnaglkaaa
