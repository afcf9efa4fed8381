/- Every piece is assigned once: the walk of SpreadSums. -/
import Derived.Test.YtocemkbplgkalaaSprTh
namespace Go.Proofs.Ytocemkbplgkalaa
open Go.RowKit

/-- The two planners, in a block. -/
def planners : Obj := .cells #[.func (.func 10) #[] #[], .func (.func 11) #[] #[]] 27
theorem lod_step (ws A : Nat → Nat) (m j a x wk : Nat) (ha : A j = a) (hx : lod ws A a j = x) (hw : ws j = wk) : ∀ c, c < m → lod ws A c (j + 1) = upd (fun c => lod ws A c j) a (x + wk) c := fun c _ => by
  show lod ws A c j + (if A j = c then ws j else 0) = _
  by_cases e : c = a
  · rw [e, upd_same, if_pos ha, hx, hw]
  · rw [upd_other e, if_neg (by rw [ha]; exact fun q => e q.symm)]; rfl
/-- The memory of a check: the plan's box, the row of sums. -/
def CS (W0 : World) (B m n mo : Nat) (L : Nat → Nat) (w : World) : Prop :=
  (Below W0.heap.size W0 w ∧ RowI w (W0.heap.size + 1) m L) ∧ w.heap[W0.heap.size]? = some (.cells #[.slice (some ⟨B, 0, none⟩) n n, .int .i64 (mo : Int)] 24 (0, 0))
theorem CS.put {W0 w : World} {B m n mo : Nat} {L : Nat → Nat} (s : CS W0 B m n mo L w) {c : Nat} (hc : c < m) (v : Nat) : CS W0 B m n mo (upd L c v) (w.setCell ⟨W0.heap.size + 1, c, none⟩ (.int .i64 (v : Int))) :=
  ⟨⟨s.1.1.setCell (p := ⟨W0.heap.size + 1, c, none⟩) (by show W0.heap.size ≤ W0.heap.size + 1; omega) _, s.1.2.put hc v⟩, (heap_setCell_other _ ⟨W0.heap.size + 1, c, none⟩ _ _ (by show W0.heap.size ≠ W0.heap.size + 1; omega)).trans s.2⟩
theorem CS.drew {W0 w : World} {B m n mo : Nat} {L : Nat → Nat} (s : CS W0 B m n mo L w) : CS W0 B m n mo L w.drew := ⟨⟨s.1.1.drew, s.1.2⟩, s.2⟩
theorem CS.congr {W0 w : World} {B m n mo : Nat} {L K : Nat → Nat} (s : CS W0 B m n mo L w) (h : ∀ c, c < m → K c = L c) : CS W0 B m n mo K w := ⟨⟨s.1.1, s.1.2.congr h⟩, s.2⟩
theorem CS.start (w : World) (B m n mo : Nat) : CS w B m n mo (fun _ => 0) ((w.alloc (.cells #[.slice (some ⟨B, 0, none⟩) n n, .int .i64 (mo : Int)] 24)).alloc (.cells (madeCells #[.int .i64 0] m) 3)) := by
  refine ⟨⟨below_more (below_more (Below.refl _ _) _) _, ?_⟩, ?_⟩
  · have := RowI.fresh (w.alloc (.cells #[.slice (some ⟨B, 0, none⟩) n n, .int .i64 (mo : Int)] 24)) m
    simpa using this
  · rw [heap_alloc_old _ _ (by simp), heap_alloc_new]
/-- What a sum asks of a slice. -/
def TotOk (W : World) (v : Value) (tt : Nat) : Prop := ∃ ad n cap ws, v = .slice ad n cap ∧ IntAt W ad cap n (fun i => ((ws i : Nat) : Int)) ∧ n ≤ 400 ∧ sumF ws n = tt ∧ tt ≤ 4611686018427387904
theorem total_V (tt : Nat) (v : Value) (W : World) (h : TotOk W v tt) : Calls Try.prog 20 #[v] W fun e w' => e = .returned (.int .i64 (tt : Int)) ∧ w' = W := by
  obtain ⟨ad, n, cap, ws, rfl, h1, h2, h3, h4⟩ := h
  exact (total_R W (Lib.hid h1) h2 tt (Lib.hid h3) h4).mono fun _ _ h => ⟨h.1, h.2.symm⟩
theorem below_keep {b c : World} {k : Nat} {o : Option Obj} (h : b.heap[k]? = o) (hb : Below b.heap.size b c) (hk : k < b.heap.size) : c.heap[k]? = o := (hb.block k hk).trans h
set_option maxHeartbeats 1000000 in
set_option maxRecDepth 100000 in
theorem sums_bad {ad : Option Addr} {cap n : Nat} {f : Nat → Int} (C : Int) (w : World) (HA : Hid (IntAt w ad cap n f)) (hn : n ≤ 9223372036854775807) (hq : Hid (wrongV f n C = 2)) :
    Calls Try.prog 7 #[.slice ad n cap, .int .i64 C] w (Yes w) := by
  go_enter Try.func7, Try.ntmps7
  go_wp2_with (first
    | (go_at_call 19; (with_reducible refine (alive5_R _).mono ?_); rintro e w1 ⟨rfl, hb1⟩; have B1 := Lib.hid hb1; clear hb1)
    | fail)
  go_loopw [16] (fun i wr => ∃ k : Nat, k ≤ 2 ∧ i = .int .i64 k ∧ Below w.heap.size w wr ∧ wr.heap[w1.heap.size]? = some planners) (fun i _ => 2 - (intOf i).toNat)
  case atStart => exact ⟨0, by omega, rfl, grow B1.out (below_al w1 _), heap_alloc_new w1 _⟩
  case round =>
    obtain ⟨k, hk, rfl, hb, hf⟩ := hrel
    have BB := Lib.hid hb
    have HF := Lib.hid hf
    have HA1 := Lib.hid (HA.out.step hb)
    have hlf := (Array.getElem?_eq_some_iff.1 hf).1
    have cf0 : wr.cell? ⟨w1.heap.size, 0, none⟩ = some (.func (.func 10) #[] #[]) := by rw [cell_of_row wr _ 0 _ _ _ hf]; rfl
    have cf1 : wr.cell? ⟨w1.heap.size, 1, none⟩ = some (.func (.func 11) #[] #[]) := by rw [cell_of_row wr _ 1 _ _ _ hf]; rfl
    clear hb hf
    by_cases hk2 : k < 2
    · have h01 : k = 0 ∨ k = 1 := by omega
      obtain ⟨wo, rfl⟩ : ∃ wo : World, wo = wr := ⟨_, rfl⟩
      rcases h01 with rfl | rfl
      · go_wp2_with fail
        go_at_call 10
        (with_reducible refine (list_bad C _ HA1 hn hq).mono ?_)
        rintro e w2 ⟨rfl, hb2⟩
        have B2 := Lib.hid (grow (grow BB.out hb2) (below_al w2 (.cells #[.slice none 0 0, .int .i64 0] 24)))
        have F2 := Lib.hid (below_keep HF.out (grow hb2 (below_al w2 (.cells #[.slice none 0 0, .int .i64 0] 24))) hlf)
        clear hb2
        go_wp2_with fail
        go_roundw
        case rel => exact ⟨0 + 1, by omega, by go_num, B2.out, F2.out⟩
        case measure => simp [intOf]
      · go_wp2_with fail
        go_at_call 11
        (with_reducible refine (long_bad C _ HA1 hn hq).mono ?_)
        rintro e w2 ⟨rfl, hb2⟩
        have B2 := Lib.hid (grow (grow BB.out hb2) (below_al w2 (.cells #[.slice none 0 0, .int .i64 0] 24)))
        have F2 := Lib.hid (below_keep HF.out (grow hb2 (below_al w2 (.cells #[.slice none 0 0, .int .i64 0] 24))) hlf)
        clear hb2
        go_wp2_with fail
        go_roundw
        case rel => exact ⟨1 + 1, by omega, by go_num, B2.out, F2.out⟩
        case measure => simp [intOf]
    · obtain rfl : k = 2 := by omega
      clear hk hk2
      go_wp2_with fail
      go_ret
      exact ⟨rfl, BB.out⟩
set_option maxHeartbeats 1000000 in
set_option maxRecDepth 100000 in
theorem sums_ok {ad : Option Addr} {cap n m : Nat} {ws : Nat → Nat} (w : World) (HA : Hid (IntAt w ad cap n (fun i => (ws i : Int)))) (hn : n ≤ 400) (hm : 0 < m) (hm8 : m ≤ 8) (hw : Hid (∀ i, i < n → ws i ≤ 1073741824)) (hq : Hid (wrongV (fun i => (ws i : Int)) n m = 0)) :
    Calls Try.prog 7 #[.slice ad n cap, .int .i64 (m : Int)] w (Yes w) := by
  have hmk := run_make_row' (P := Try.prog) 22 3 (.int .i64 0) 8 Try.underlying22 info_int rfl .i64 .i64 m (by omega) (by omega)
  have HMK := Lib.hid hmk
  have htb := tot_bound hn hw.out
  obtain ⟨tt, htt⟩ : ∃ q, sumF ws n = q := ⟨_, rfl⟩
  rw [htt] at htb
  have HTT := Lib.hid htt
  clear hmk htt
  go_enter Try.func7, Try.ntmps7
  go_wp2_with (first
    | (go_at_call 19; (with_reducible refine (alive5_R _).mono ?_); rintro e w1 ⟨rfl, hb1⟩; have B1 := Lib.hid hb1; clear hb1)
    | fail)
  go_loopw [16] (fun i wr => ∃ k : Nat, k ≤ 2 ∧ i = .int .i64 k ∧ Below w.heap.size w wr ∧ wr.heap[w1.heap.size]? = some planners) (fun i _ => 2 - (intOf i).toNat)
  case atStart => exact ⟨0, by omega, rfl, grow B1.out (below_al w1 _), heap_alloc_new w1 _⟩
  case round =>
    obtain ⟨k, hk, rfl, hb, hf⟩ := hrel
    have BB := Lib.hid hb
    have HF := Lib.hid hf
    have HA1 := Lib.hid (HA.out.step hb)
    have hlf := (Array.getElem?_eq_some_iff.1 hf).1
    have cf0 : wr.cell? ⟨w1.heap.size, 0, none⟩ = some (.func (.func 10) #[] #[]) := by rw [cell_of_row wr _ 0 _ _ _ hf]; rfl
    have cf1 : wr.cell? ⟨w1.heap.size, 1, none⟩ = some (.func (.func 11) #[] #[]) := by rw [cell_of_row wr _ 1 _ _ _ hf]; rfl
    clear hb hf
    by_cases hk2 : k < 2
    · have h01 : k = 0 ∨ k = 1 := by omega
      obtain ⟨wo, rfl⟩ : ∃ wo : World, wo = wr := ⟨_, rfl⟩
      rcases h01 with rfl | rfl
      · go_wp2_with fail
        go_at_call 10
        (with_reducible refine (list_ok _ HA1 hn hm hm8 hw hq).mono ?_)
        rintro e w2 ⟨B, he, hr, hB, hb2⟩
        obtain ⟨O, hO⟩ : ∃ O : Nat → Nat, O = fun i => i := ⟨_, rfl⟩
        have hp : Perm O n := by rw [hO]; exact perm_id n
        rw [← hO] at he hr
        have hmb := most_bound (m := m) hn hw.out hp.1
        have hpl := fun c => plan_lod (ws := ws) (m := m) hp c
        have hcl := fun i => core_lt (ws := ws) (O := O) hm n i
        obtain ⟨mo, hmo⟩ : ∃ q, mostP ws m O n = q := ⟨_, rfl⟩
        obtain ⟨A, hA⟩ : ∃ q, (planP ws m O n).2 = q := ⟨_, rfl⟩
        rw [hmo] at he hmb
        rw [hA] at hr
        simp only [hA] at hpl hcl
        subst he
        have HPL := Lib.hid hpl
        have HCL := Lib.hid hcl
        have HMO := Lib.hid hmo
        have HR := Lib.hid hr
        have hBl := hr.lt
        have B2 := Lib.hid (grow BB.out hb2)
        have HA2 := Lib.hid (HA1.out.step hb2)
        have F2 := Lib.hid (below_keep HF.out hb2 hlf)
        have hlf2 : w1.heap.size < w2.heap.size := Nat.lt_of_lt_of_le hlf hb2.size
        have hbox := box_core w2 B n mo
        have hbox1 := box_most w2 B n mo
        unfold boxP at hbox hbox1
        have hmk := HMK.out
        clear hb2 hr hB hpl hcl hmo hA cf0 cf1 hO
        go_wp2_with fail
        clear hmk hbox hbox1
        go_loopw [40] (fun i wr => ∃ j : Nat, j ≤ n ∧ i = .int .i64 j ∧ CS w2 B m n mo (fun c => lod ws A c j) wr) (fun i _ => n - (intOf i).toNat)
        case atStart => exact ⟨0, Nat.zero_le _, rfl, CS.start w2 B m n mo⟩
        case round =>
          obtain ⟨j, hj, rfl, hs⟩ := hrel
          have S := Lib.hid hs
          by_cases hjn : j < n
          · obtain ⟨a, ha⟩ : ∃ a, A j = a := ⟨_, rfl⟩
            have ham : a < m := by rw [← ha]; exact HCL.out j
            have cA := (HR.out.step hs.1.1).cell hjn
            rw [ha] at cA
            obtain ⟨qb, qo, hqe, hqb, hcw⟩ := (HA2.out.step hs.1.1).2 (by omega)
            subst hqe
            have cw : wr.cell? ⟨qb, qo + j, none⟩ = some (.int .i64 ((ws j : Nat) : Int)) := hcw j hjn
            have hwk := hw.out j hjn
            obtain ⟨wk, hwe⟩ : ∃ wk, ws j = wk := ⟨_, rfl⟩
            rw [hwe] at cw hwk
            obtain ⟨x, hx⟩ : ∃ x, lod ws A a j = x := ⟨_, rfl⟩
            have hxb : x ≤ 429496729600 := by
              rw [← hx]
              have h1 : lod ws A a j ≤ sumF ws n := Nat.le_trans (sumF_le fun i _ => by show (if A i = a then ws i else 0) ≤ ws i; split <;> omega) (sumF_mono (by omega))
              rw [HTT.out] at h1
              omega
            have cl := hs.1.2.cell ham
            rw [hx] at cl
            have fl := hs.1.2.frozen a
            obtain ⟨y, hy⟩ : ∃ y, x + wk = y := ⟨_, rfl⟩
            have HST := Lib.hid (lod_step ws A m j a x wk ha hx hwe)
            rw [hy] at HST
            have hsum : IntKind.i64.wrap ((x : Int) + (wk : Int)) = (y : Int) := by rw [IntWalk.i64_in _ (by omega)]; omega
            have t1 : ¬ (m : Int) ≤ (a : Int) := by omega
            have t2 : ¬ (a : Int) < 0 := by omega
            have S4 := Lib.hid (((S.out.put ham y).drew).congr HST.out)
            clear hs hcw ha hx hy hwe
            go_wp2_with fail
            go_still_tail 10, (by kernel_rfl)
            change wpList _ _ _ _ _ wr.drew
            go_wp2_with fail
            clear hsum
            go_roundw
            case rel => exact ⟨j + 1, by omega, by go_num, S4.out⟩
            case measure => simp [intOf]; omega
          · obtain rfl : j = n := by omega
            have hL : ∀ c, c < m → lod ws A c j = (planP ws m O j).1 c := fun c _ => HPL.out c
            have HMX : Hid (maxF (fun c => lod ws A c j) m = mo) := Lib.hid (by rw [maxF_congr hL]; exact HMO.out)
            have HST : Hid (sumF (fun c => lod ws A c j) m = tt) := Lib.hid (by rw [lod_sum fun i _ => HCL.out i]; exact HTT.out)
            have HRQ : Hid (∀ q i, i < m → (wr.drewN q).cell? ⟨w2.heap.size + 1, 0 + i, none⟩ = some (.int .i64 ((lod ws A i j : Nat) : Int))) := Lib.hid fun q i hi => by rw [Nat.zero_add]; exact S.out.1.2.cell hi
            have HSQ : Hid (∀ q, TotOk (wr.drewN q) (.slice (some ⟨w2.heap.size + 1, 0, none⟩) m m) tt) := Lib.hid fun q => ⟨_, _, _, _, rfl, (S.out.1.2.at m).step (below_drewN (Below.refl _ _) q), by omega, HST.out, by omega⟩
            have HWQ : Hid (∀ q, TotOk (wr.drewN q) (.slice ad j cap) tt) := Lib.hid fun q => ⟨_, _, _, _, rfl, (HA2.out.step S.out.1.1).step (below_drewN (Below.refl _ _) q), hn, HTT.out, by omega⟩
            have cm : wr.cell? ⟨w2.heap.size, 1, none⟩ = some (.int .i64 (mo : Int)) := by rw [cell_of_row wr _ 1 _ _ _ S.out.2]; rfl
            have m1000 : m ≤ 1000 := by omega
            have tA : ((mo : Int) != (mo : Int)) = false := by simp
            have tB : ((tt : Int) != (tt : Int)) = false := by simp
            clear hs hjn hj
            go_wp2_with fail
            go_quiet ((first
              | (go_at_call 21; exact Calls.quiet_of_same ((max_R _ (Lib.hid (HRQ.out _)) hm m1000 mo HMX).mono (fun _ _ h => ⟨h.1, h.2.symm⟩)))
              | (go_at_call 20; exact Calls.quiet_of_same (total_V tt _ _ (by first | with_reducible exact HSQ.out _ | with_reducible exact HWQ.out _)))))
            go_wp2_with fail
            go_roundw
            case rel => exact ⟨0 + 1, by omega, by go_num, below_drewN (grow B2.out S.out.1.1) _, (S.out.1.1.block _ hlf2).trans F2.out⟩
            case measure => simp [intOf]
      · go_wp2_with fail
        go_at_call 11
        (with_reducible refine (long_ok _ HA1 hn hm hm8 hw hq).mono ?_)
        rintro e w2 ⟨O, hp, hs, B, he, hr, hB, hb2⟩
        have hmb := most_bound (m := m) hn hw.out hp.1
        have hpl := fun c => plan_lod (ws := ws) (m := m) hp c
        have hcl := fun i => core_lt (ws := ws) (O := O) hm n i
        obtain ⟨mo, hmo⟩ : ∃ q, mostP ws m O n = q := ⟨_, rfl⟩
        obtain ⟨A, hA⟩ : ∃ q, (planP ws m O n).2 = q := ⟨_, rfl⟩
        rw [hmo] at he hmb
        rw [hA] at hr
        simp only [hA] at hpl hcl
        subst he
        have HPL := Lib.hid hpl
        have HCL := Lib.hid hcl
        have HMO := Lib.hid hmo
        have HR := Lib.hid hr
        have hBl := hr.lt
        have B2 := Lib.hid (grow BB.out hb2)
        have HA2 := Lib.hid (HA1.out.step hb2)
        have F2 := Lib.hid (below_keep HF.out hb2 hlf)
        have hlf2 : w1.heap.size < w2.heap.size := Nat.lt_of_lt_of_le hlf hb2.size
        have hbox := box_core w2 B n mo
        have hbox1 := box_most w2 B n mo
        unfold boxP at hbox hbox1
        have hmk := HMK.out
        clear hb2 hr hB hpl hcl hmo hA cf0 cf1 hs
        go_wp2_with fail
        clear hmk hbox hbox1
        go_loopw [40] (fun i wr => ∃ j : Nat, j ≤ n ∧ i = .int .i64 j ∧ CS w2 B m n mo (fun c => lod ws A c j) wr) (fun i _ => n - (intOf i).toNat)
        case atStart => exact ⟨0, Nat.zero_le _, rfl, CS.start w2 B m n mo⟩
        case round =>
          obtain ⟨j, hj, rfl, hs⟩ := hrel
          have S := Lib.hid hs
          by_cases hjn : j < n
          · obtain ⟨a, ha⟩ : ∃ a, A j = a := ⟨_, rfl⟩
            have ham : a < m := by rw [← ha]; exact HCL.out j
            have cA := (HR.out.step hs.1.1).cell hjn
            rw [ha] at cA
            obtain ⟨qb, qo, hqe, hqb, hcw⟩ := (HA2.out.step hs.1.1).2 (by omega)
            subst hqe
            have cw : wr.cell? ⟨qb, qo + j, none⟩ = some (.int .i64 ((ws j : Nat) : Int)) := hcw j hjn
            have hwk := hw.out j hjn
            obtain ⟨wk, hwe⟩ : ∃ wk, ws j = wk := ⟨_, rfl⟩
            rw [hwe] at cw hwk
            obtain ⟨x, hx⟩ : ∃ x, lod ws A a j = x := ⟨_, rfl⟩
            have hxb : x ≤ 429496729600 := by
              rw [← hx]
              have h1 : lod ws A a j ≤ sumF ws n := Nat.le_trans (sumF_le fun i _ => by show (if A i = a then ws i else 0) ≤ ws i; split <;> omega) (sumF_mono (by omega))
              rw [HTT.out] at h1
              omega
            have cl := hs.1.2.cell ham
            rw [hx] at cl
            have fl := hs.1.2.frozen a
            obtain ⟨y, hy⟩ : ∃ y, x + wk = y := ⟨_, rfl⟩
            have HST := Lib.hid (lod_step ws A m j a x wk ha hx hwe)
            rw [hy] at HST
            have hsum : IntKind.i64.wrap ((x : Int) + (wk : Int)) = (y : Int) := by rw [IntWalk.i64_in _ (by omega)]; omega
            have t1 : ¬ (m : Int) ≤ (a : Int) := by omega
            have t2 : ¬ (a : Int) < 0 := by omega
            have S4 := Lib.hid (((S.out.put ham y).drew).congr HST.out)
            clear hs hcw ha hx hy hwe
            go_wp2_with fail
            go_still_tail 10, (by kernel_rfl)
            change wpList _ _ _ _ _ wr.drew
            go_wp2_with fail
            clear hsum
            go_roundw
            case rel => exact ⟨j + 1, by omega, by go_num, S4.out⟩
            case measure => simp [intOf]; omega
          · obtain rfl : j = n := by omega
            have hL : ∀ c, c < m → lod ws A c j = (planP ws m O j).1 c := fun c _ => HPL.out c
            have HMX : Hid (maxF (fun c => lod ws A c j) m = mo) := Lib.hid (by rw [maxF_congr hL]; exact HMO.out)
            have HST : Hid (sumF (fun c => lod ws A c j) m = tt) := Lib.hid (by rw [lod_sum fun i _ => HCL.out i]; exact HTT.out)
            have HRQ : Hid (∀ q i, i < m → (wr.drewN q).cell? ⟨w2.heap.size + 1, 0 + i, none⟩ = some (.int .i64 ((lod ws A i j : Nat) : Int))) := Lib.hid fun q i hi => by rw [Nat.zero_add]; exact S.out.1.2.cell hi
            have HSQ : Hid (∀ q, TotOk (wr.drewN q) (.slice (some ⟨w2.heap.size + 1, 0, none⟩) m m) tt) := Lib.hid fun q => ⟨_, _, _, _, rfl, (S.out.1.2.at m).step (below_drewN (Below.refl _ _) q), by omega, HST.out, by omega⟩
            have HWQ : Hid (∀ q, TotOk (wr.drewN q) (.slice ad j cap) tt) := Lib.hid fun q => ⟨_, _, _, _, rfl, (HA2.out.step S.out.1.1).step (below_drewN (Below.refl _ _) q), hn, HTT.out, by omega⟩
            have cm : wr.cell? ⟨w2.heap.size, 1, none⟩ = some (.int .i64 (mo : Int)) := by rw [cell_of_row wr _ 1 _ _ _ S.out.2]; rfl
            have m1000 : m ≤ 1000 := by omega
            have tA : ((mo : Int) != (mo : Int)) = false := by simp
            have tB : ((tt : Int) != (tt : Int)) = false := by simp
            clear hs hjn hj
            go_wp2_with fail
            go_quiet ((first
              | (go_at_call 21; exact Calls.quiet_of_same ((max_R _ (Lib.hid (HRQ.out _)) hm m1000 mo HMX).mono (fun _ _ h => ⟨h.1, h.2.symm⟩)))
              | (go_at_call 20; exact Calls.quiet_of_same (total_V tt _ _ (by first | with_reducible exact HSQ.out _ | with_reducible exact HWQ.out _)))))
            go_wp2_with fail
            go_roundw
            case rel => exact ⟨1 + 1, by omega, by go_num, below_drewN (grow B2.out S.out.1.1) _, (S.out.1.1.block _ hlf2).trans F2.out⟩
            case measure => simp [intOf]
    · obtain rfl : k = 2 := by omega
      clear hk hk2
      go_wp2_with fail
      go_ret
      exact ⟨rfl, BB.out⟩
theorem spreadSums_walk (v : Value) (C : Int) (w : World) (g : ArgI w v) : Calls Try.prog 7 #[v, .int .i64 C] w (Yes w) := by
  obtain ⟨ad, n, cap, f, rfl, hn, HA⟩ := g
  by_cases hq : wrongV f n C = 0
  · obtain ⟨m, ws, rfl, ⟨h1, h2, h3⟩, h4, h5⟩ := wrong_pass hq
    exact sums_ok w (Lib.hid (HA.congr fun i hi => (h5 i hi).symm)) h3 h1 h2 (Lib.hid h4) (Lib.hid (wrong_zero h3 h1 h2 h4))
  · exact sums_bad C w (Lib.hid HA) hn (Lib.hid (wrong_two hq))
end Go.Proofs.Ytocemkbplgkalaa
