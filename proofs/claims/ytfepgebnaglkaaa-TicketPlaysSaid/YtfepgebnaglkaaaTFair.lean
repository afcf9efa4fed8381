/- The walk of TicketFair. -/
import Derived.Test.YtfepgebnaglkaaaTAll
namespace Go.Proofs.Ytfepgebnaglkaaa
open Go.RowKit

theorem as_len (ops : List LopT) : (runT ops).as.length ≤ ops.length := by
  unfold runT
  suffices h : ∀ (l : List LopT) (r : RunT), (l.foldl stepR r).as.length ≤ r.as.length + l.length by
    have := h ops r0
    simpa [r0] using this
  intro l
  induction l with
  | nil => exact fun r => Nat.le_refl _
  | cons o l ih =>
    intro r
    refine Nat.le_trans (ih _) ?_
    have : (stepR r o).as.length ≤ r.as.length + 1 := by
      unfold stepR
      split
      · simp only
        split
        · simp
        · omega
      · omega
    simp only [List.length_cons]
    omega
/-- What is in memory while TicketFair runs. -/
structure FaW (w wx : World) (B : Nat) (R : Array Value) (es qs : List Int) (ra : Option Addr) (rc : Nat) (v : Value) : Prop where
  b : Below w.heap.size w wx
  lt : w.heap.size ≤ B
  r : wx.heap[B]? = some (.cells R 25 (0, 0))
  e : shI.At wx ra rc es
  o : wx.ownsRow B 3 1 v qs.length (shI.flat qs)
  far : ∀ b off, ra = some ⟨b, off, none⟩ → 0 < es.length → b < B
section
variable {w wx wy : World} {B : Nat} {R R' : Array Value} {es qs qs' : List Int} {ra : Option Addr} {rc : Nat} {v v' : Value}
theorem FaW.step (h : FaW w wx B R es qs ra rc v) (hb : Below wx.heap.size wx wy) : FaW w wy B R es qs ra rc v :=
  ⟨pstep h.b hb, h.lt, heap_step h.r hb, h.e.step hb, own_step h.o hb, h.far⟩
theorem FaW.blt (h : FaW w wx B R es qs ra rc v) : B < wx.heap.size := (Array.getElem?_eq_some_iff.1 h.r).1
theorem at_keep {b0 : Nat} (h : shI.At wx ra rc es) (hf : ∀ b off, ra = some ⟨b, off, none⟩ → 0 < es.length → b < b0) (hs : wx.heap.size ≤ wy.heap.size) (hk : ∀ k, k < b0 → k < wx.heap.size → wy.heap[k]? = wx.heap[k]?) : shI.At wy ra rc es :=
  ⟨h.1, fun h0 => by
    obtain ⟨b, off, e, hlt, hl⟩ := h.2 h0
    refine ⟨b, off, e, by omega, fun k hk' => ?_⟩
    have := hk b (hf b off e h0) hlt
    rw [← hl k hk']
    simp [World.cell?, this]⟩
theorem FaW.set (h : FaW w wx B R es qs ra rc v) (hs : SetR wx wy B (.cells R' 25 (0, 0))) : FaW w wy B R' es qs ra rc v :=
  ⟨h.b.trans (hs.below _ h.lt), h.lt, hs.put, at_keep h.e h.far (by rw [hs.size]; exact Nat.le_refl _) (fun k hk _ => hs.other k (by omega)), own_heap h.o fun g o hg ho => (hs.other g (own_ne h.o h.r (by decide) g hg)).trans ho, h.far⟩
theorem FaW.grown (h : FaW w wx B R es qs ra rc v) (hg : wx.grownBy wy v.ownBlock) (ho : wy.ownsRow B 3 1 v' qs'.length (shI.flat qs')) : FaW w wy B R es qs' ra rc v' :=
  ⟨h.b.grown hg h.b.size (fun k hk => by have := (World.ownsRow.lt h.o k hk).1; have := h.lt; omega), h.lt,
    (hg.block _ h.blt (fun e => (own_ne h.o h.r (by decide) _ e.symm) rfl)).trans h.r,
    at_keep h.e h.far hg.size (fun k hk hlt => hg.block k hlt (fun e => by have := (World.ownsRow.lt h.o k e.symm).1; omega)), ho, h.far⟩
end
theorem at_take {w : World} {ad : Option Addr} {cap cap' : Nat} {l : List Int} (m : Nat) (hm : m ≤ l.length) (hn : ad = none → cap' = 0) (h : shI.At w ad cap l) : shI.At w ad cap' (l.take m) := by
  refine ⟨fun e => ⟨hn e, by rw [(h.1 e).2]; simp⟩, fun h0 => ?_⟩
  rw [List.length_take] at h0
  obtain ⟨b, off, e, hb, hl⟩ := h.2 (by omega)
  refine ⟨b, off, e, hb, fun k hk => ?_⟩
  have hs : shI.size = 1 := rfl
  rw [List.length_take, hs] at hk
  rw [hs] at hl
  rw [hl k (by omega)]
  have hk1 : l[k]? = some l[k] := List.getElem?_eq_getElem (by omega)
  have h1 := shI.flat_at l k 0 _ hk1 (by decide)
  have h2 := shI.flat_at (l.take m) k 0 _ ((List.getElem?_take_of_lt (by omega)).trans hk1) (by decide)
  rw [hs] at h1 h2
  simp only [Nat.mul_one, Nat.add_zero] at h1 h2
  rw [h1, h2]
theorem own_cap {w : World} {base n cap : Nat} {ad : Option Addr} {xs : List Value} (h : w.ownsRow base 3 1 (.slice ad n cap) n xs): n ≤ cap ∧ cap ≤ maxLen ∧ (ad = none → cap = 0) := by
  obtain ⟨_, h2⟩ := h
  rcases h2 with ⟨e, h0⟩ | ⟨g, cp, cur, e, _, _, h3, h4, _⟩
  · simp only [Value.slice.injEq] at e
    obtain ⟨_, _, rfl⟩ := e
    exact ⟨by omega, by unfold maxLen; omega, fun _ => rfl⟩
  · simp only [Value.slice.injEq] at e
    obtain ⟨rfl, _, rfl⟩ := e
    exact ⟨h3, h4, fun h => by cases h⟩
set_option maxHeartbeats 2000000 in
set_option maxRecDepth 100000 in
theorem fair_core {ad : Option Addr} {cap n : Nat} {ops : List LopT} (Z : Array Value) (hz : ∀ w, (zeroValue 25).run Try.prog w = .ok (.agg Z) w) (HZ : Hid (Z.size = 18)) (w : World) (HA : Hid (shL.At w ad cap ops)) (hm : Hid (ops.length = n)) (hn : n ≤ 8796093022208) (r : RunT) (Hr : Hid (runT ops = r)) (n1 : Nat) (Hn1 : Hid (r.es.length = n1)) :
    Calls Try.prog 6 #[.slice ad n cap] w fun e w' => e = .returned (.bool true) ∧ Below w.heap.size w w' := by
  obtain ⟨i0, hi, hz0, hz1, hz2⟩ := info_parts info_int
  obtain ⟨R9, hR9⟩ : ∃ R, lockRow r.l = R := ⟨_, rfl⟩
  have HR9 := Lib.hid hR9
  have HS9 : Hid (R9.size = 18) := Lib.hid (by rw [← hR9]; rfl)
  have HAR9 : Hid (R9.all (·.oneCell') = true) := Lib.hid (by rw [← hR9]; exact row_all _)
  obtain ⟨R0, hR0⟩ : ∃ R0, lockRow l0 = R0 := ⟨_, rfl⟩
  have HR0 := Lib.hid hR0
  have HS0 : Hid (R0.size = 18) := Lib.hid (by rw [← hR0]; rfl)
  have HAR0 : Hid (R0.all (·.oneCell') = true) := Lib.hid (by rw [← hR0]; exact row_all _)
  clear hR9 hR0
  go_enter Try.func6, Try.ntmps6
  go_wp2_with (first
    | (go_at_call 17; (with_reducible refine (alive6_R _).mono ?_); rintro e w1 ⟨rfl, hb⟩; have B1 := Lib.hid hb; clear hb)
    | (go_at_call 13; (with_reducible refine (play_E _ (Lib.hid (HA.out.step B1.out)) hm hn r Hr r.es n1 (Lib.hid rfl) Hn1 R9 HR9).mono ?_); rintro e w2 ⟨ra, rc, rfl, RA, hb⟩; have B2 := Lib.hid (pstep B1.out hb); have E2 := Lib.hid RA; clear hb RA)
    | (refine wpList_store_row rfl 25 _ _ rfl w2.heap.size R9 rfl rfl 25 Z (heap_alloc_new w2 _) (by rw [size_lock, HS9.out]) (by rw [HS9.out, HZ.out]) HAR9.out ?_; intro w3 hw3; have C3 := Lib.hid ((below_alloc w2 (.cells Z 25)).trans (hw3.below _ (Nat.le_refl _))); have B3 := Lib.hid (pstep B2.out C3.out); have E3 := Lib.hid (E2.out.step C3.out); clear hw3)
    | (go_at_call 16; (with_reducible refine (new_L _ R0 HR0).mono ?_); rintro e w4 ⟨rfl, hb⟩; have B4 := Lib.hid (pstep B3.out hb); have E4 := Lib.hid (E3.out.step hb); clear hb)
    | (refine wpList_store_row rfl 25 _ _ rfl w4.heap.size R0 rfl rfl 25 Z (heap_alloc_new w4 _) (by rw [size_lock, HS0.out]) (by rw [HS0.out, HZ.out]) HAR0.out ?_; intro w5 hw5; have C5 := Lib.hid ((below_alloc w4 (.cells Z 25)).trans (hw5.below _ (Nat.le_refl _))); have F5 : Hid (FaW w w5 w4.heap.size R0 r.es [] ra rc (.slice none 0 0)) := (Lib.hid ⟨pstep B4.out C5.out, B4.out.size, hw5.put, E4.out.step C5.out, World.ownsRow_nil _ _ _ _, fun b off e h0 => (by obtain ⟨b', off', e', hlt, _⟩ := E4.out.2 h0; rw [e] at e'; cases e'; exact hlt)⟩); clear hw5)
    | fail)
  generalize w4.heap.size = B at F5 ⊢
  go_loopw [6, 22] (fun v i wr => ∃ (k : Nat) (va : Option Addr) (vc : Nat) (R : Array Value), k ≤ n ∧ i = .int .i64 k ∧ v = .slice va (runT (ops.take k)).as.length vc ∧ Hid (lockRow (runT (ops.take k)).l = R) ∧ Hid (FaW w wr B R r.es (runT (ops.take k)).as ra rc v)) (fun _ i _ => n - (intOf i).toNat)
  case atStart => exact ⟨0, none, 0, R0, Nat.zero_le _, rfl, rfl, HR0, F5⟩
  case round =>
    clear F5 HR0 HS0 HAR0 HR9 HS9 HAR9
    obtain ⟨k, va, vc, R, hk, rfl, rfl, HR, HF⟩ := hrel
    have hfair := fair_run (ops.take k)
    have hel := as_len (ops.take k)
    rw [List.length_take] at hel
    obtain ⟨st, hst⟩ : ∃ st, runT (ops.take k) = st := ⟨_, rfl⟩
    have HN : ∀ o, ops[k]? = some o → runT (ops.take (k + 1)) = stepR st o := fun o ho => by rw [runT_take ho, hst]
    rw [hst] at HR HF hfair hel ⊢
    have HNX := Lib.hid HN
    clear HN
    have HS : Hid (R.size = 18) := Lib.hid (by rw [← HR.out]; rfl)
    by_cases hkl : k < n
    · obtain ⟨o, ho⟩ : ∃ o, ops[k]? = some o := ⟨ops[k]'(by rw [hm.out]; exact hkl), List.getElem?_eq_getElem _⟩
      obtain ⟨K, C⟩ := o
      have hnx := HNX.out _ ho
      obtain ⟨b, off, rfl, hb, e0, e1⟩ := at_lop HA.out ho
      have g0 := (HF.out.b.cell (p := ⟨b, off + k * 2, none⟩) hb).trans e0
      have g1 := (HF.out.b.cell (p := ⟨b, off + k * 2 + 1, none⟩) hb).trans e1
      simp only at g0 g1
      have hbr : b < wr.heap.size := Nat.lt_of_lt_of_le hb HF.out.b.size
      have F6 := Lib.hid (HF.out.step (below_alloc wr (.cells #[.int .i64 K, .int .i64 C] 27)))
      have O6 := Lib.hid (heap_alloc_new wr (.cells #[.int .i64 K, .int .i64 C] 27))
      have HBW := Lib.hid HF.out.blt
      clear e0 e1 ho HNX
      obtain ⟨⟨u', t, x⟩, hst2⟩ : ∃ q, stepT st.l K C = q := ⟨_, rfl⟩
      obtain ⟨R4, hR4⟩ : ∃ R4, lockRow u' = R4 := ⟨_, rfl⟩
      have HR4 := Lib.hid hR4
      have HS4 : Hid (R4.size = 18) := Lib.hid (by rw [← hR4]; rfl)
      have HA4 : Hid (R4.all (·.oneCell') = true) := Lib.hid (by rw [← hR4]; exact row_all _)
      have hst3 := hst2
      unfold stepT at hst3
      rw [okT_true.2 hfair.rt] at hst3
      unfold stepR at hnx
      simp only at hnx
      by_cases he : errT true st.l K C = 0
      · rw [if_pos he] at hst3 hnx
        simp only [Prod.mk.injEq] at hst3
        obtain ⟨rfl, rfl, rfl⟩ := hst3
        have HST := Lib.hid hst2
        by_cases hK : K = 1
        · subst hK
          rw [if_pos (rfl : (1 : Int) = 1)] at hnx
          have HNX := Lib.hid hnx
          clear hnx hst2 he hfair hR4
          go_wp2_with (first
            | (refine wpList_load_row rfl 25 _ rfl B rfl 25 R (0, 0) _ F6.out.r Try.underlying25 rfl (by rw [size_lock, HS.out]) ?_)
            | (go_at_call 9; (with_reducible refine (step_R st.l 1 C R R4 _ 0 _ HR HR4 HST _).mono ?_); rintro e w7 ⟨rfl, hb⟩; have F7 := Lib.hid (F6.out.step hb); have O7 := Lib.hid (heap_step O6.out hb); clear hb)
            | (refine wpList_store_row rfl 25 _ _ rfl w7.heap.size R4 rfl rfl 25 Z (heap_alloc_new w7 _) (by rw [size_lock, HS4.out]) (by rw [HS4.out, HZ.out]) HA4.out ?_; intro w8 hw8; have C8 := Lib.hid ((below_alloc w7 (.cells Z 25)).trans (hw8.below _ (Nat.le_refl _))); have F8 := Lib.hid (F7.out.step C8.out); have O8 := Lib.hid (heap_step O7.out C8.out); have G8 := pair_cells O8.out; have P8 := Lib.hid hw8.put; have F9 := Lib.hid (F8.out.step (below_alloc w8 (.cells #[.int .i64 C] 3))); have Y9 := Lib.hid (int_new w8 C); have P9 := Lib.hid (heap_step P8.out (below_alloc w8 (.cells #[.int .i64 C] 3))); clear hw8)
            | (at_builtin; refine wpList_append_at shI rfl _ _ 31 rfl B 3 i0 _ 8 Try.underlying31 hi hz0 hz1 hz2 rfl (.slice va st.as.length vc) st.as [C] rfl F9.out.o (some ⟨w8.heap.size, 0, none⟩) 1 1 rfl (Lib.hid rfl) Y9.out ?h63 ?hby ?hba ?_)
            | fail)
          case h63 => unfold maxLen; omega
          case hby => omega
          case hba => have := F8.out.blt; simp; omega
          intro va' vc' w10 own10 grow10 _
          have F10 := Lib.hid (F9.out.grown grow10 (qs' := st.as ++ [C]) (by rw [List.length_append, List.length_singleton]; exact own10))
          have P10 : Hid (w10.heap[w7.heap.size]? = some (.cells R4 25 (0, 0))) := Lib.hid ((grow10.block _ (Array.getElem?_eq_some_iff.1 P9.out).1 (fun e => (own_ne F9.out.o P9.out (by decide) _ e.symm) rfl)).trans P9.out)
          clear own10 grow10
          go_wp2_with (first
            | (refine wpList_load_row rfl 25 _ rfl w7.heap.size rfl 25 R4 (0, 0) _ P10.out Try.underlying25 rfl (by rw [size_lock, HS4.out]) ?_)
            | (refine wpList_store_row rfl 25 _ _ rfl B R4 rfl rfl 25 R F10.out.r (by rw [size_lock, HS4.out]) (by rw [HS4.out, HS.out]) HA4.out ?_; intro w11 hw11; have F11 := Lib.hid (F10.out.set hw11); clear hw11)
            | fail)
          go_roundw
          case rel => exact ⟨k + 1, va', vc', R4, by omega, by go_num, by rw [HNX.out, List.length_append, List.length_singleton], by rw [HNX.out]; exact HR4, by rw [HNX.out]; exact F11⟩
          case measure => simp [intOf]; omega
        · rw [if_neg hK] at hnx
          have hK1 : (K == 1) = false := by simpa using hK
          have HNX := Lib.hid hnx
          clear hnx hst2 he hfair hR4
          go_wp2_with (first
            | (refine wpList_load_row rfl 25 _ rfl B rfl 25 R (0, 0) _ F6.out.r Try.underlying25 rfl (by rw [size_lock, HS.out]) ?_)
            | (go_at_call 9; (with_reducible refine (step_R st.l K C R R4 _ 0 _ HR HR4 HST _).mono ?_); rintro e w7 ⟨rfl, hb⟩; have F7 := Lib.hid (F6.out.step hb); have O7 := Lib.hid (heap_step O6.out hb); clear hb)
            | (refine wpList_store_row rfl 25 _ _ rfl w7.heap.size R4 rfl rfl 25 Z (heap_alloc_new w7 _) (by rw [size_lock, HS4.out]) (by rw [HS4.out, HZ.out]) HA4.out ?_; intro w8 hw8; have C8 := Lib.hid ((below_alloc w7 (.cells Z 25)).trans (hw8.below _ (Nat.le_refl _))); have F8 := Lib.hid (F7.out.step C8.out); have O8 := Lib.hid (heap_step O7.out C8.out); have G8 := pair_cells O8.out; have P8 := Lib.hid hw8.put; clear hw8)
            | (refine wpList_load_row rfl 25 _ rfl w7.heap.size rfl 25 R4 (0, 0) _ P8.out Try.underlying25 rfl (by rw [size_lock, HS4.out]) ?_)
            | (refine wpList_store_row rfl 25 _ _ rfl B R4 rfl rfl 25 R F8.out.r (by rw [size_lock, HS4.out]) (by rw [HS4.out, HS.out]) HA4.out ?_; intro w11 hw11; have F11 := Lib.hid (F8.out.set hw11); clear hw11)
            | fail)
          go_roundw
          case rel => exact ⟨k + 1, va, vc, R4, by omega, by go_num, by rw [HNX.out], by rw [HNX.out]; exact HR4, by rw [HNX.out]; exact F11⟩
          case measure => simp [intOf]; omega
      · rw [if_neg he] at hst3 hnx
        simp only [Prod.mk.injEq] at hst3
        obtain ⟨rfl, rfl, hx⟩ := hst3
        have hx1 : (x != 0) = true := by rw [← hx]; simpa using he
        have HST := Lib.hid hst2
        have HNX := Lib.hid hnx
        clear hnx hst2 he hfair hR4 hx
        go_wp2_with (first
          | (refine wpList_load_row rfl 25 _ rfl B rfl 25 R (0, 0) _ F6.out.r Try.underlying25 rfl (by rw [size_lock, HS.out]) ?_)
          | (go_at_call 9; (with_reducible refine (step_R st.l K C R R4 _ x _ HR HR4 HST _).mono ?_); rintro e w7 ⟨rfl, hb⟩; have F7 := Lib.hid (F6.out.step hb); clear hb)
          | (refine wpList_store_row rfl 25 _ _ rfl w7.heap.size R4 rfl rfl 25 Z (heap_alloc_new w7 _) (by rw [size_lock, HS4.out]) (by rw [HS4.out, HZ.out]) HA4.out ?_; intro w8 hw8; have C8 := Lib.hid ((below_alloc w7 (.cells Z 25)).trans (hw8.below _ (Nat.le_refl _))); have F8 := Lib.hid (F7.out.step C8.out); clear hw8)
          | fail)
        go_roundw
        case rel => exact ⟨k + 1, va, vc, R, by omega, by go_num, by rw [HNX.out], by rw [HNX.out]; exact HR, by rw [HNX.out]; exact F8⟩
        case measure => simp [intOf]; omega
    · obtain rfl : k = n := by omega
      have hre : st = r := by rw [← hst, ← hm.out, runT_all]; exact Hr.out
      subst hre
      have hle := hfair.le
      have hpre := hfair.pre
      rw [Hn1.out] at hle hpre
      obtain ⟨c1, c2, c3⟩ := own_cap HF.out.o
      have hcap : (n1 : Int) ≤ (vc : Int) := by omega
      have hvl : (vc : Int) ≤ 9223372036854775807 := by unfold maxLen at c2; omega
      have hle1 : (n1 : Int) ≤ (st.as.length : Int) := by omega
      have A1 := Lib.hid HF.out.e
      obtain ⟨ad2, cap2, e2, at2⟩ := Shape.At.of_row HF.out.o
      simp only [Value.slice.injEq, true_and] at e2
      obtain ⟨rfl, rfl⟩ := e2
      have A2 : Hid (shI.At wr va vc st.es) := Lib.hid (by rw [hpre]; exact at_take n1 (by omega) c3 at2)
      have BB := Lib.hid HF.out.b
      clear HF HNX hst Hr hfair hpre at2 c1 c2 c3 hkl
      have hn1 : n1 ≤ 9223372036854775807 := by omega
      go_wp2_with (first
        | (go_at_call 15; (with_reducible refine (equalI (n := n1) _ Hn1 A1 A2 hn1).mono ?_); rintro e w6 ⟨rfl, hb⟩; have B6 := Lib.hid (pstep BB.out hb); clear hb)
        | fail)
      go_ret
      exact ⟨rfl, B6.out⟩
theorem ticketFair_walk (v0 : Value) (w : World) (g0 : ArgLops w v0) (u0 : lenOf v0 ≤ 8796093022208) :
    Calls Try.prog 6 #[v0] w fun e w' => e = .returned (.bool true) ∧ Below w.heap.size w w' := by
  obtain ⟨ad, cap, l, rfl, HA⟩ := g0
  exact fair_core _ (zero_of_info info_lock).1 (Lib.hid rfl) w (Lib.hid HA) (Lib.hid rfl) u0 _ (Lib.hid rfl) _ (Lib.hid rfl)
end Go.Proofs.Ytfepgebnaglkaaa
