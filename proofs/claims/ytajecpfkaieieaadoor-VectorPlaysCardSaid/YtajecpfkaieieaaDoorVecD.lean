/- corebellref.DPlay$1: the core with the fewest slots, and its first free vector: plain facts and the walk. -/
import Derived.Test.YtajecpfkaieieaaDoorVecAl
import Derived.Test.YtajecpfkaieieaaDoorVecF
import Derived.Lib.SliceRun
import Derived.Deep.WholeRow
namespace Go.Proofs.YtajecpfkaieieaaDoor
open Go.RowKit

def bestI : Option Nat → Int
  | none => -1
  | some b => b
def fewI (n : Nat → Nat) : Option Nat → Nat
  | none => 1000
  | some b => n b
/-- The step of a search for the core with the fewest. -/
theorem pick_succ (n : Nat → Nat) (ok : Nat → Bool) (c : Nat) (p : Option Nat) (h : pick n ok c = p) : pick n ok (c + 1) = if ok c = true ∧ n c < 224 ∧ n c < fewI n p then some c else p := by
  rw [pick, h]
  cases p with
  | none =>
    have e : (ok c = true ∧ n c < 224 ∧ n c < fewI n none) ↔ (ok c = true ∧ n c < 224) := ⟨fun x => ⟨x.1, x.2.1⟩, fun x => ⟨x.1, x.2, by have := x.2; show n c < 1000; omega⟩⟩
    simp only [e]
  | some b => rfl
theorem few_le (n : Nat → Nat) (ok : Nat → Bool) (c : Nat) : fewI n (pick n ok c) ≤ 1000 := by
  cases h : pick n ok c with
  | none => exact Nat.le_refl _
  | some b => have := (pick_some h).2.2.1; simp only [fewI]; omega
theorem best_lt (n : Nat → Nat) (ok : Nat → Bool) (c : Nat) : -1 ≤ bestI (pick n ok c) ∧ bestI (pick n ok c) < c := by
  cases h : pick n ok c with
  | none => simp only [bestI]; omega
  | some b => have := (pick_some h).1; simp only [bestI]; omega
/-- 'uint64(mask)>>c%2 == 1'. -/
theorem shr_allowD (m : Int) (c : Nat) (hc : c < 8) : (IntKind.u64.wrap m / 2 ^ c).tmod 2 = 1 ↔ allow m c = true := by
  unfold allow
  rw [decide_eq_true_iff, IntKind.wrap_u64]
  have h8 : c = 0 ∨ c = 1 ∨ c = 2 ∨ c = 3 ∨ c = 4 ∨ c = 5 ∨ c = 6 ∨ c = 7 := by omega
  have h0 : 0 ≤ m % 18446744073709551616 := Int.emod_nonneg _ (by decide)
  have h1 : 0 ≤ m % 18446744073709551616 / 2 ^ c := Int.ediv_nonneg h0 (Int.pow_nonneg (by decide))
  rw [Int.tmod_eq_emod_of_nonneg h1]
  rcases h8 with rfl | rfl | rfl | rfl | rfl | rfl | rfl | rfl <;> simp only [Int.reducePow] <;> omega
theorem below_moreD {W w : World} (h : Below W.heap.size W w) (o : Obj) : Below W.heap.size W (w.alloc o) := h.alloc h.size o
/-- Is the vector in use on the core, by the first j slots? -/
def hadTo (l : List SlotT) (b j v : Nat) : Bool := (l.take j).any fun s => onC b s && decide (s.vec = v)
theorem had_step {l : List SlotT} {b j v : Nat} {s : SlotT} (h : l[j]? = some s) : hadTo l b (j + 1) v = (hadTo l b j v || (onC b s && decide (s.vec = v))) := by
  unfold hadTo
  rw [List.take_add_one, h]
  simp [List.any_append]
theorem had_free (l : List SlotT) (b v : Nat) (h : 32 ≤ v) : freeV l b v = !hadTo l b l.length v := by
  unfold hadTo
  rw [List.take_length]
  unfold freeV
  rw [decide_eq_true h, Bool.true_and, ← List.not_any_eq_all_not]
/-- A row of bools in a block. -/
def HadRow (w : World) (B : Nat) (p : Nat → Bool) : Prop := ∃ cur, w.heap[B]? = some (.cells cur 47 (0, 0)) ∧ ∀ v, v < 256 → cur[v]? = some (.bool (p v))
section
variable {w w' : World} {B : Nat} {p q : Nat → Bool}
theorem HadRow.lt (r : HadRow w B p) : B < w.heap.size := by
  obtain ⟨cur, hc, _⟩ := r
  exact (Array.getElem?_eq_some_iff.1 hc).1
theorem HadRow.step (r : HadRow w B p) (hb : Below w.heap.size w w') : HadRow w' B p := by
  have hl := r.lt
  obtain ⟨cur, hc, hi⟩ := r
  exact ⟨cur, by rw [hb.block B hl]; exact hc, hi⟩
theorem HadRow.cell (r : HadRow w B p) {v : Nat} (h : v < 256) : w.cell? ⟨B, v, none⟩ = some (.bool (p v)) := by
  obtain ⟨cur, hc, hi⟩ := r
  rw [cell_of_row w B v _ _ _ hc]
  exact hi v h
theorem HadRow.frozen (r : HadRow w B p) (v : Nat) : w.frozen? ⟨B, v, none⟩ = false := by
  obtain ⟨cur, hc, _⟩ := r
  exact frozen_of_row w B v cur _ hc
theorem HadRow.same (r : HadRow w B p) (h : ∀ v, v < 256 → q v = p v) : HadRow w B q := by
  obtain ⟨cur, hc, hi⟩ := r
  exact ⟨cur, hc, fun v hv => by rw [h v hv]; exact hi v hv⟩
theorem HadRow.put (r : HadRow w B p) {v : Nat} (hv : v < 256) : HadRow (w.setCell ⟨B, v, none⟩ (.bool true)) B (fun x => p x || decide (v = x)) := by
  obtain ⟨cur, hc, hi⟩ := r
  have h8 : v < cur.size := (Array.getElem?_eq_some_iff.1 (hi v hv)).1
  refine ⟨_, heap_setCell_same w B v cur _ _ hc, fun x hx => ?_⟩
  by_cases e : v = x
  · subst e
    simp [Array.getElem?_setIfInBounds]
    omega
  · rw [Array.getElem?_setIfInBounds_ne e, hi x hx]
    simp [e]
end
def boolsD (n : Nat) : Array Value := ((List.range n).map (fun _ => Value.bool false)).toArray
theorem boolsD_at (n i : Nat) (h : i < n) : (boolsD n)[i]? = some (.bool false) := by simp [boolsD, h]
theorem info_rowD : (Tryd.prog.info? 47).map (fun i => (i.zero, i.size)) = some (some (.agg (boolsD 256)), 256) := by kernel_rfl
/-- What DPlay$1 answers. -/
def findV (l : List SlotT) : Option Nat → Value
  | none => .tuple #[.agg #[.int .i64 0, .int .i64 0], .bool false]
  | some c => .tuple #[.agg #[.int .i64 (c : Int), .int .i64 (vecV l c)], .bool true]
/-- Which cores may be taken. -/
def okD (m but : Int) (c : Nat) : Bool := allow m c && !decide ((c : Int) = but)
set_option maxHeartbeats 2000000 in
set_option maxRecDepth 100000 in
theorem find_core {B CB OB cap : Nat} {l : List SlotT} (Z : Array Value) (hz : ∀ w, (zeroValue 47).run Tryd.prog w = .ok (.agg Z) w) (hZ : Hid (∀ v, v < 256 → Z[v]? = some (.bool false))) (w : World) (cores n : Nat) (M but : Int) (h8 : cores ≤ 8) (hn : n ≤ 2000) (hll : Hid (l.length = n)) (HG : Hid (GoodV cores l)) (HS : Hid (shS.At w (some ⟨B, 0, none⟩) cap l)) (c1 : w.cell? ⟨CB, 0, none⟩ = some (.int .i64 (cores : Int))) (c2 : w.cell? ⟨OB, 0, none⟩ = some (.slice (some ⟨B, 0, none⟩) n cap)) (hCB : CB < w.heap.size) (hOB : OB < w.heap.size)
    (p : Option Nat) (HP : Hid (pick (cntV l) (okD M but) cores = p)) :
    Calls Tryd.prog 12 #[.int .i64 M, .int .i64 but, .pointer (some ⟨CB, 0, none⟩), .pointer (some ⟨OB, 0, none⟩)] w fun e w' => e = .returned (findV l p) ∧ Below w.heap.size w w' := by
  go_enter Tryd.func12, Tryd.ntmps12
  go_wp2_with fail
  go_loopw [8, 9, 19] (fun a f i wr => ∃ c : Nat, c ≤ cores ∧ i = .int .i64 c ∧ a = .int .i64 (bestI (pick (cntV l) (okD M but) c)) ∧ f = .int .i64 (fewI (cntV l) (pick (cntV l) (okD M but) c) : Nat) ∧ Below (w.heap.size + 1) (w.alloc (.cells #[.int .i64 0, .int .i64 0] 31)) wr) (fun _ _ i _ => cores - (intOf i).toNat)
  case atStart => exact ⟨0, Nat.zero_le _, rfl, rfl, rfl, Below.refl _ _⟩
  case round =>
    obtain ⟨c, hc, rfl, rfl, rfl, BB⟩ := hrel
    have hfl := few_le (cntV l) (okD M but) c
    have hbl := best_lt (cntV l) (okD M but) c
    have hpk := pick_succ (cntV l) (okD M but) c _ rfl
    obtain ⟨q, hq⟩ : ∃ q, pick (cntV l) (okD M but) c = q := ⟨_, rfl⟩
    rw [hq] at hfl hbl hpk ⊢
    obtain ⟨fw, hfw⟩ : ∃ fw, fewI (cntV l) q = fw := ⟨_, rfl⟩
    obtain ⟨bq, hbq⟩ : ∃ bq, bestI q = bq := ⟨_, rfl⟩
    rw [hfw] at hfl hpk ⊢
    rw [hbq] at hbl ⊢
    have HPK := Lib.hid hpk
    have HQ := Lib.hid hq
    have HFW := Lib.hid hfw
    have HBQ := Lib.hid hbq
    clear hpk hq hfw hbq
    by_cases hcl : c < cores
    · have B0 : Below w.heap.size w wr := (below_alloc w _).trans (BB.mono (by omega))
      have d2 := (B0.cell (p := ⟨OB, 0, none⟩) hOB).trans c2
      have BH := Lib.hid BB
      have S0 := Lib.hid (HS.out.step B0)
      clear B0 BB
      go_wp2_with fail
      go_loopw [11, 24] (fun x i wr2 => ∃ j : Nat, j ≤ n ∧ i = .int .i64 j ∧ x = .int .i64 (cntTo l c j) ∧ Below wr.heap.size wr wr2) (fun _ i _ => n - (intOf i).toNat)
      case atStart => exact ⟨0, Nat.zero_le _, rfl, rfl, Below.refl _ _⟩
      case round =>
        obtain ⟨j, hj, rfl, rfl, BB⟩ := hrel
        by_cases hjn : j < n
        · obtain ⟨s, hs⟩ : ∃ s, l[j]? = some s := ⟨l[j]'(by rw [hll.out]; exact hjn), List.getElem?_eq_getElem _⟩
          obtain ⟨a, v⟩ := s
          obtain ⟨sb, so, hsa, hsb, g0, g1⟩ := at_slot (S0.out.step BB) hs
          simp only [Option.some.injEq, Addr.mk.injEq, and_true] at hsa
          obtain ⟨rfl, rfl⟩ := hsa
          have hle := cntTo_le l c j
          have hstep := cntTo_step (c := c) hs
          rw [hll.out] at hle
          obtain ⟨x, hx⟩ : ∃ x, cntTo l c j = x := ⟨_, rfl⟩
          rw [hx] at hstep hle ⊢
          clear hs hx
          simp only [Nat.zero_add] at g0 g1
          by_cases hv0 : 0 < v
          · by_cases hac : a = c
            · subst hac
              have hst2 : cntTo l a (j + 1) = x + 1 := by rw [hstep, if_pos ((onC_iff a ⟨a, v⟩).2 ⟨hv0, rfl⟩)]
              have HX := Lib.hid hst2
              clear hst2 hstep
              go_wp2_with fail
              go_roundw
              case rel => exact ⟨j + 1, by omega, by go_num, by rw [HX.out]; go_num, below_moreD BB _⟩
              case measure => simp [intOf]; omega
            · have hst2 : cntTo l c (j + 1) = x := by rw [hstep, if_neg (fun h => hac ((onC_iff c ⟨a, v⟩).1 h).2)]; rfl
              have HX := Lib.hid hst2
              have hac' : ¬ (a : Int) = (c : Int) := by omega
              clear hst2 hstep
              go_wp2_with fail
              go_roundw
              case rel => exact ⟨j + 1, by omega, by go_num, by rw [HX.out], below_moreD BB _⟩
              case measure => simp [intOf]; omega
          · have hst2 : cntTo l c (j + 1) = x := by rw [hstep, if_neg (fun h => hv0 ((onC_iff c ⟨a, v⟩).1 h).1)]; rfl
            have HX := Lib.hid hst2
            have hv1 : v = 0 := by omega
            subst hv1
            clear hst2 hstep
            go_wp2_with fail
            go_roundw
            case rel => exact ⟨j + 1, by omega, by go_num, by rw [HX.out], below_moreD BB _⟩
            case measure => simp [intOf]; omega
        · obtain rfl : j = n := by omega
          have hcn : cntTo l c j = cntV l c := by rw [← hll.out]; exact cntTo_all l c
          rw [hcn]
          have hle := cnt_le l c
          rw [hll.out] at hle
          have BB2 := Lib.hid (BH.out.trans (BB.mono (Nat.le_trans (by simp) BH.out.size)))
          have hpk := HPK.out
          obtain ⟨x, hx⟩ : ∃ x, cntV l c = x := ⟨_, rfl⟩
          rw [hx] at hle hpk ⊢
          have HX := Lib.hid hx
          clear hcn hjn hj BB hx HPK d2
          by_cases hcb : (c : Int) = but
          · subst hcb
            have HN : Hid (pick (cntV l) (okD M (c : Int)) (c + 1) = q) := Lib.hid (by rw [hpk, if_neg (by simp [okD])])
            clear hpk
            go_wp2_with fail
            go_roundw
            case rel => exact ⟨c + 1, by omega, by go_num, by rw [HN.out, HBQ.out], by rw [HN.out, HFW.out], BB2.out⟩
            case measure => simp [intOf]; omega
          · by_cases haM : allow M c = true
            · have hsh : (IntKind.u64.wrap M / 2 ^ c).tmod 2 = 1 := (shr_allowD M c (by omega)).2 haM
              have hok : okD M but c = true := by simp [okD, haM, hcb]
              by_cases hx2 : x < 224
              · by_cases hx3 : x < fw
                · have HN : Hid (pick (cntV l) (okD M but) (c + 1) = some c) := Lib.hid (by rw [hpk, if_pos ⟨hok, hx2, hx3⟩])
                  clear hpk hok haM
                  go_wp2_with fail
                  go_roundw
                  case rel => exact ⟨c + 1, by omega, by go_num, by rw [HN.out]; rfl, by rw [HN.out, ← HX.out]; rfl, BB2.out⟩
                  case measure => simp [intOf]; omega
                · have HN : Hid (pick (cntV l) (okD M but) (c + 1) = q) := Lib.hid (by rw [hpk, if_neg (fun h => hx3 h.2.2)])
                  clear hpk hok haM
                  go_wp2_with fail
                  go_roundw
                  case rel => exact ⟨c + 1, by omega, by go_num, by rw [HN.out, HBQ.out], by rw [HN.out, HFW.out], BB2.out⟩
                  case measure => simp [intOf]; omega
              · have HN : Hid (pick (cntV l) (okD M but) (c + 1) = q) := Lib.hid (by rw [hpk, if_neg (fun h => hx2 h.2.1)])
                clear hpk hok haM
                go_wp2_with fail
                go_roundw
                case rel => exact ⟨c + 1, by omega, by go_num, by rw [HN.out, HBQ.out], by rw [HN.out, HFW.out], BB2.out⟩
                case measure => simp [intOf]; omega
            · have hsh : ¬ (IntKind.u64.wrap M / 2 ^ c).tmod 2 = 1 := fun h => haM ((shr_allowD M c (by omega)).1 h)
              have HN : Hid (pick (cntV l) (okD M but) (c + 1) = q) := Lib.hid (by rw [hpk, if_neg (fun h => haM (by have := h.1; simp [okD] at this; exact this.1))])
              clear hpk haM
              go_wp2_with fail
              go_roundw
              case rel => exact ⟨c + 1, by omega, by go_num, by rw [HN.out, HBQ.out], by rw [HN.out, HFW.out], BB2.out⟩
              case measure => simp [intOf]; omega
    · obtain rfl : c = cores := by omega
      obtain rfl : q = p := by rw [← HQ.out, HP.out]
      have R0 : wr.heap[w.heap.size]? = some (.cells #[.int .i64 0, .int .i64 0] 31 (0, 0)) := (BB.block _ (by omega)).trans (heap_alloc_new w _)
      have c0 : wr.cell? ⟨w.heap.size, 0, none⟩ = some (.int .i64 0) := by rw [cell_of_row wr _ 0 _ _ _ R0]; rfl
      have c1' : wr.cell? ⟨w.heap.size, 1, none⟩ = some (.int .i64 0) := by rw [cell_of_row wr _ 1 _ _ _ R0]; rfl
      have f0 : ∀ i, wr.frozen? ⟨w.heap.size, i, none⟩ = false := fun i => frozen_of_row wr _ i _ _ R0
      have f00 := f0 0
      have f01 := f0 1
      have B0 : Below w.heap.size w wr := (below_alloc w _).trans (BB.mono (by omega))
      have d2 := (B0.cell (p := ⟨OB, 0, none⟩) hOB).trans c2
      have hwr : w.heap.size < wr.heap.size := Nat.lt_of_lt_of_le (by simp) BB.size
      have hOB2 : OB < wr.heap.size := by omega
      have hHP := HP.out
      clear hcl hc HPK HFW hfl f0 R0
      cases q with
      | none =>
        obtain rfl : bq = -1 := by rw [← HBQ.out]; rfl
        go_wp2_with fail
        refine bodyPost_ret (v := .tuple #[.agg #[.int .i64 0, .int .i64 0], .bool false]) (by simp [results, Tryd.results12, go_sem, c0, c1']) rfl ?_
        exact ⟨rfl, (B0.setCell (p := ⟨w.heap.size, 0, none⟩) (Nat.le_refl _) _).setCell (p := ⟨w.heap.size, 1, none⟩) (Nat.le_refl _) _⟩
      | some b =>
        obtain rfl : bq = (b : Int) := by rw [← HBQ.out]; rfl
        have hps := pick_some hHP
        obtain ⟨hb1, hb2, hb3, hb4⟩ := hps
        obtain ⟨V, hV, hV1, hV2, hV3, hV4⟩ := vec_ok hb3
        have HV3 : Hid (hadTo l b n V = false) := Lib.hid (by rw [had_free l b V hV1, hll.out] at hV3; simpa using hV3)
        have HV4 : Hid (∀ m, m < V → 32 ≤ m → hadTo l b n m = true) := Lib.hid fun m h1 h2 => by
          have := hV4 m h1 h2
          rw [had_free l b m h2, hll.out] at this
          simpa using this
        have HV := Lib.hid hV
        have BH := Lib.hid B0
        have S0 := Lib.hid (HS.out.step B0)
        clear hHP hb2 hb3 hb4 hV hV3 hV4 BB B0 HQ HBQ
        obtain ⟨wo, rfl⟩ : ∃ wo : World, wo = wr := ⟨_, rfl⟩
        go_wp2_with fail
        have H0 : HadRow (wo.alloc (.cells Z 47)) wo.heap.size (hadTo l b 0) := ⟨Z, heap_alloc_new wo _, hZ.out⟩
        go_loopw [68] (fun i wr => ∃ j : Nat, j ≤ n ∧ i = .int .i64 j ∧ HadRow wr wo.heap.size (hadTo l b j) ∧ Below wo.heap.size wo wr) (fun i _ => n - (intOf i).toNat)
        case atStart => exact ⟨0, Nat.zero_le _, rfl, H0, below_alloc _ _⟩
        case round =>
          clear H0
          obtain ⟨j, hj, rfl, HR, BB⟩ := hrel
          by_cases hjn : j < n
          · obtain ⟨s, hs⟩ : ∃ s, l[j]? = some s := ⟨l[j]'(by rw [hll.out]; exact hjn), List.getElem?_eq_getElem _⟩
            obtain ⟨a, v⟩ := s
            obtain ⟨sb, so, hsa, hsb, g0, g1⟩ := at_slot (S0.out.step BB) hs
            simp only [Option.some.injEq, Addr.mk.injEq, and_true] at hsa
            obtain ⟨rfl, rfl⟩ := hsa
            simp only [Nat.zero_add] at g0 g1
            have hstep := fun x => had_step (b := b) (v := x) hs
            have hv256 : v < 256 := by
              rcases HG.out.1 j _ hs with e | e
              · rw [zs, SlotT.mk.injEq] at e; omega
              · exact e.2.2
            have R1 := HR.step (below_alloc wr (.cells #[.int .i64 (a : Int), .int .i64 (v : Int)] 31))
            have B2 := Lib.hid (BB.alloc BB.size (.cells #[.int .i64 (a : Int), .int .i64 (v : Int)] 31))
            have hlt2 := HR.lt
            by_cases hon : 0 < v ∧ a = b
            · obtain ⟨hv0, rfl⟩ := hon
              have hrow := ((HR.put hv256).same (q := hadTo l a (j + 1)) (fun x hx => by rw [hstep, (onC_iff a ⟨a, v⟩).2 ⟨hv0, rfl⟩, Bool.true_and])).step (below_alloc _ (.cells #[.int .i64 (a : Int), .int .i64 (v : Int)] 31))
              have B4 := Lib.hid ((BB.setCell (p := ⟨wo.heap.size, v, none⟩) (Nat.le_refl _) (.bool true)).alloc (by simp; exact BB.size) (.cells #[.int .i64 (a : Int), .int .i64 (v : Int)] 31))
              have HRN := Lib.hid hrow
              have fz := HR.frozen v
              have cz := HR.cell hv256
              clear hrow hstep hs R1 HR BB
              go_wp2_with fail
              go_roundw
              case rel => exact ⟨j + 1, by omega, by go_num, HRN.out, B4.out⟩
              case measure => simp [intOf]; omega
            · have hrow := R1.same (q := hadTo l b (j + 1)) (fun x hx => by
                rw [hstep]
                have : onC b ⟨a, v⟩ = false := by
                  cases h : onC b ⟨a, v⟩
                  · rfl
                  · exact absurd ((onC_iff b ⟨a, v⟩).1 h) hon
                rw [this]; simp)
              have HRN := Lib.hid hrow
              clear hrow hstep hs R1 HR BB
              by_cases hv0 : 0 < v
              · have hab : ¬ (a : Int) = (b : Int) := fun h => hon ⟨hv0, by omega⟩
                go_wp2_with fail
                go_roundw
                case rel => exact ⟨j + 1, by omega, by go_num, HRN.out, B2.out⟩
                case measure => simp [intOf]; omega
              · obtain rfl : v = 0 := by omega
                go_wp2_with fail
                go_roundw
                case rel => exact ⟨j + 1, by omega, by go_num, HRN.out, B2.out⟩
                case measure => simp [intOf]; omega
          · obtain rfl : j = n := by omega
            have c0' := (BB.cell (p := ⟨w.heap.size, 0, none⟩) hwr).trans c0
            have c1'' := (BB.cell (p := ⟨w.heap.size, 1, none⟩) hwr).trans c1'
            have f0' := (BB.frozen (p := ⟨w.heap.size, 0, none⟩) hwr).trans f00
            have f1' := (BB.frozen (p := ⟨w.heap.size, 1, none⟩) hwr).trans f01
            have HRR := Lib.hid HR
            have B3 := Lib.hid (BH.out.trans (BB.mono (by omega)))
            clear hjn hj HR BB
            go_wp2_with fail
            go_loop [17] (fun i => ∃ m : Nat, 32 ≤ m ∧ m ≤ V ∧ i = .int .i64 m) (fun i => V - (intOf i).toNat)
            case atStart => exact ⟨32, Nat.le_refl _, hV1, rfl⟩
            case round =>
              obtain ⟨m, hm1, hm2, rfl⟩ := hrel
              have hc := HRR.out.cell (v := m) (by omega)
              by_cases hmV : m < V
              · rw [HV4.out m hmV hm1] at hc
                go_wp2_with fail
                go_round
                case rel => exact ⟨m + 1, by omega, by omega, by go_num⟩
                case measure => simp [intOf]; omega
              · obtain rfl : m = V := by omega
                rw [HV3.out] at hc
                clear hmV hm2
                go_wp2_with fail
                refine bodyPost_ret (v := .tuple #[.agg #[.int .i64 (b : Int), .int .i64 (m : Int)], .bool true]) (by simp [results, Tryd.results12, go_sem, c0', c1'']) rfl ?_
                exact ⟨by rw [findV, HV.out], (B3.out.setCell (p := ⟨w.heap.size, 0, none⟩) (Nat.le_refl _) _).setCell (p := ⟨w.heap.size, 1, none⟩) (Nat.le_refl _) _⟩
end Go.Proofs.YtajecpfkaieieaaDoor
