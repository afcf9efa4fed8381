/- The walk of VectorEven. -/
import Derived.Test.YtmjcicpmkmagfaaDoorVFull
import Derived.Test.YtmjcicpmkmagfaaDoorVecE
namespace Go.Proofs.YtmjcicpmkmagfaaDoor
open Go.RowKit

theorem own_slice {w : World} {base k : Nat} {e : TypeId} {v : Value} {l : List VopT} (h : w.ownsRow base e 3 v k (shO.flat l)) (hk : l.length = k) : ∃ ad cap, v = .slice ad k cap ∧ shO.At w ad cap l := by
  subst hk
  exact Shape.At.of_row (S := shO) h
theorem even_fn (x : Int) (w : World) (h : x = 0) : Calls Tryd.prog 15 #[.int .i64 x] w fun e w' => e = .returned (.bool false) ∧ w = w' := by
  subst h
  go_enter Tryd.func15, Tryd.ntmps15
  go_wp2
  go_ret
  exact ⟨rfl, rfl⟩
set_option maxHeartbeats 1000000 in
set_option maxRecDepth 100000 in
theorem idx_zero {ea : Option Addr} {ec n : Nat} {es : List Int} (w : World) (HE : Hid (shE.At w ea ec es)) (hn : Hid (es.length = n)) (hn2 : n ≤ 9223372036854775807) (hz : Hid (∀ x, x ∈ es → x = 0)) :
    Calls Tryd.prog 19 #[.slice ea n ec, .func (.func 15) #[] #[]] w fun e w' => e = .returned (.int .i64 (-1)) ∧ Below w.heap.size w w' := by
  go_enter Tryd.func19, Tryd.ntmps19
  go_wp2_with fail
  go_loopw [8] (fun i wr => ∃ j : Nat, j ≤ n ∧ i = .int .i64 j ∧ Below w.heap.size w wr) (fun i _ => n - (intOf i).toNat)
  case atStart => exact ⟨0, Nat.zero_le _, rfl, Below.refl _ _⟩
  case round =>
    obtain ⟨j, hj, rfl, BB⟩ := hrel
    by_cases hlt : j < n
    · obtain ⟨x, hx⟩ : ∃ x, es[j]? = some x := ⟨es[j]'(by rw [hn.out]; exact hlt), List.getElem?_eq_getElem _⟩
      obtain rfl : x = 0 := hz.out x (List.mem_of_getElem? hx)
      obtain ⟨b1, o1, rfl, hb1, e1⟩ := at_err (HE.out.step BB) hx
      clear hx
      go_wp2_with (first
        | (go_at_call 15; (with_reducible refine (even_fn 0 _ rfl).mono ?_); rintro e w2 ⟨rfl, rfl⟩)
        | fail)
      go_roundw
      case rel => exact ⟨j + 1, by omega, by go_num, BB⟩
      case measure => simp [intOf]; omega
    · obtain rfl : j = n := by omega
      clear hlt hj
      go_wp2_with fail
      go_ret
      exact ⟨rfl, BB⟩
set_option maxHeartbeats 1000000 in
set_option maxRecDepth 100000 in
theorem contains_zero {ea : Option Addr} {ec n : Nat} {es : List Int} (w : World) (HE : Hid (shE.At w ea ec es)) (hn : Hid (es.length = n)) (hn2 : n ≤ 9223372036854775807) (hz : Hid (∀ x, x ∈ es → x = 0)) :
    Calls Tryd.prog 14 #[.slice ea n ec, .func (.func 15) #[] #[]] w fun e w' => e = .returned (.bool false) ∧ Below w.heap.size w w' := by
  go_enter Tryd.func14, Tryd.ntmps14
  go_wp2_with (first
    | (go_at_call 19; (with_reducible refine (idx_zero _ HE hn hn2 hz).mono ?_); rintro e w2 ⟨rfl, hb⟩; have B2 := hb; clear hb)
    | fail)
  go_ret
  exact ⟨rfl, B2⟩
set_option maxHeartbeats 1000000 in
set_option maxRecDepth 100000 in
theorem veven_off (w : World) (hT : Hid (Tab w)) (C N : Int) (h : C < 1 ∨ (¬ C < 1 ∧ 8 < C) ∨ (¬ C < 1 ∧ ¬ 8 < C ∧ N < 0) ∨ (¬ C < 1 ∧ ¬ 8 < C ∧ ¬ N < 0 ∧ 224 * C < N)) :
    Calls Tryd.prog 6 #[.int .i64 C, .int .i64 N] w fun e w' => e = .returned (.bool true) ∧ Below w.heap.size w w' := by
  rcases h with h | ⟨h, h'⟩ | ⟨h, h', h''⟩ | ⟨h, h', h'', h3⟩
  all_goals
    go_enter Tryd.func6, Tryd.ntmps6
    go_wp2_with (first
      | (go_at_call 12; (with_reducible refine (alive4_R _ hT).mono ?_); rintro e w1 ⟨rfl, hb⟩; have B1 := hb; clear hb)
      | fail)
    go_ret
    exact ⟨rfl, B1⟩
/-- The counts, in an array of the call's own. -/
def CntRow (w : World) (N : Nat) (l : List SlotT) (j : Nat) : Prop := ∃ cur, w.heap[N]? = some (.cells cur 42 (0, 0)) ∧ ∀ c, c < 8 → cur[c]? = some (.int .i64 (cntTo l c j : Int))
theorem CntRow.lt {w : World} {N j : Nat} {l : List SlotT} (r : CntRow w N l j) : N < w.heap.size := by
  obtain ⟨cur, hc, _⟩ := r
  exact (Array.getElem?_eq_some_iff.1 hc).1
theorem CntRow.step {w w' : World} {N j : Nat} {l : List SlotT} (r : CntRow w N l j) (hb : Below w.heap.size w w') : CntRow w' N l j := by
  have hl := r.lt
  obtain ⟨cur, hc, hi⟩ := r
  exact ⟨cur, by rw [hb.block N hl]; exact hc, hi⟩
theorem CntRow.cell {w : World} {N j : Nat} {l : List SlotT} (r : CntRow w N l j) {c : Nat} (h : c < 8) : w.cell? ⟨N, c, none⟩ = some (.int .i64 (cntTo l c j : Int)) := by
  obtain ⟨cur, hc, hi⟩ := r
  rw [cell_of_row w N c _ _ _ hc]
  exact hi c h
theorem CntRow.frozen {w : World} {N j : Nat} {l : List SlotT} (r : CntRow w N l j) (c : Nat) : w.frozen? ⟨N, c, none⟩ = false := by
  obtain ⟨cur, hc, _⟩ := r
  exact frozen_of_row w N c cur _ hc
theorem CntRow.more {w : World} {N j a v : Nat} {l : List SlotT} (r : CntRow w N l j) (hs : l[j]? = some ⟨a, v⟩) (ha : a < 8) (hv : 0 < v) : CntRow (w.setCell ⟨N, a, none⟩ (.int .i64 ((cntTo l a j : Int) + 1))) N l (j + 1) := by
  obtain ⟨cur, hc, hi⟩ := r
  have h8 : a < cur.size := (Array.getElem?_eq_some_iff.1 (hi a ha)).1
  refine ⟨_, heap_setCell_same w N a cur _ _ hc, fun c hc8 => ?_⟩
  rw [cntTo_step (c := c) hs]
  by_cases e : c = a
  · subst e
    rw [if_pos ((onC_iff c ⟨c, v⟩).2 ⟨hv, rfl⟩)]
    simp [Array.getElem?_setIfInBounds]
    omega
  · rw [if_neg (fun h => e ((onC_iff c ⟨a, v⟩).1 h).2.symm), Array.getElem?_setIfInBounds_ne (by omega)]
    exact hi c hc8
set_option maxHeartbeats 2000000 in
set_option maxRecDepth 100000 in
theorem veven_main (w : World) (hT : Hid (Tab w)) (cores n : Nat) (h1 : 1 ≤ cores) (h8 : cores ≤ 8) (hn : n ≤ 224 * cores) (l : List SlotT) (es : List Int) (HR : Hid (runV cores n (evO n) = (l, es))) :
    Calls Tryd.prog 6 #[.int .i64 cores, .int .i64 n] w fun e w' => e = .returned (.bool true) ∧ Below w.heap.size w w' := by
  obtain ⟨i0, hi, hz0, hz1, hz2⟩ := info_parts info_op
  have hn2 : n ≤ 1792 := by omega
  have hd0 : ¬ (224 * (cores : Int)) < (n : Int) := by omega
  have hg := run_good cores n (evO n)
  have hev := even_run h1 h8 hn n (Nat.le_refl _)
  rw [HR.out] at hg hev
  simp only at hg
  obtain ⟨hg1, hg2, hg3⟩ := hg
  obtain ⟨v1, v2, _, v4, v5⟩ := hev
  simp only at v1 v2 v4 v5
  rw [evO_len] at hg3
  have HV1 := Lib.hid v1
  have HV2 := Lib.hid v2
  have HL := Lib.hid hg2
  have HES := Lib.hid hg3
  have HG := Lib.hid hg1
  have HD : Hid (∀ c, c < cores → n / cores ≤ cntV l c ∧ cntV l c ≤ (n + cores - 1) / cores) := Lib.hid fun c hc => even_div hc v4 v5
  clear v1 v2 v4 v5 hg1 hg2 hg3
  go_enter Tryd.func6, Tryd.ntmps6
  go_wp2_with (first
    | (go_at_call 12; (with_reducible refine (alive4_R _ hT).mono ?_); rintro e w1 ⟨rfl, hb⟩; have B1 := hb; have HT1 := Lib.hid (tab_step hT.out hb); clear hb)
    | fail)
  go_loopw [5, 33] (fun v i wr => ∃ k : Nat, k ≤ n ∧ i = .int .i64 k ∧ wr.ownsRow w1.heap.size 36 3 v k (shO.flat (evO k)) ∧ Below w1.heap.size w1 wr) (fun _ i _ => n - (intOf i).toNat)
  case atStart => exact ⟨0, Nat.zero_le _, rfl, World.ownsRow_nil _ _ _ _, Below.refl _ _⟩
  case round =>
    obtain ⟨k, hk, rfl, own, BB⟩ := hrel
    have hs1 := BB.size
    by_cases hkl : k < n
    · have OWN := Lib.hid (own_alloc own (.cells #[.int .i64 1, .int .i64 (k : Int), .int .i64 255] 36))
      have OW := Lib.hid own
      have B2 := Lib.hid BB
      clear own BB
      go_wp2_with (first
        | (at_builtin; refine wpList_append_at shO rfl _ _ 22 rfl w1.heap.size 36 i0 _ 24 Tryd.underlying22 hi hz0 hz1 hz2 rfl _ (evO k) [⟨1, (k : Int), 255⟩] rfl ?own (some ⟨_, 0, none⟩) 1 1 rfl (Lib.hid rfl) (lit1 _ _ _ _) ?h63 ?hby ?hba ?_)
        | fail)
      case own => rw [evO_len]; exact OWN.out
      case h63 => rw [evO_len]; unfold maxLen; omega
      case hby => rw [evO_len]; omega
      case hba => simp; omega
      rw [evO_len]
      intro ra rc w3 own3 grow3 _
      rw [← evO_snoc] at own3
      have O3 := Lib.hid own3
      have B3 := Lib.hid ((B2.out.alloc hs1 _).grown grow3 (by simp; omega) (fun g hg => (OW.out.lt g hg).1))
      clear own3 grow3
      go_wp2_with fail
      go_roundw
      case rel => exact ⟨k + 1, by omega, by go_num, O3.out, B3.out⟩
      case measure => simp [intOf]; omega
    · obtain rfl : k = n := by omega
      obtain ⟨ad, cap, hv, hat⟩ := own_slice own (evO_len k)
      subst hv
      have HA := Lib.hid hat
      have HTR := Lib.hid (tab_step HT1.out BB)
      have B2 := pstep B1 BB
      clear hat own BB hkl hk
      go_wp2_with (first
        | (go_at_call 8; (with_reducible refine (play_ok _ HTR cores k h1 h8 (by omega) HA (Lib.hid (evO_len k)) (by omega) l es HR).mono ?_); rintro e w4 ⟨ea, ec, sa, sc, rfl, EA, SA, hb⟩; have B4 := pstep B2 hb; have HE4 := Lib.hid EA; have HS4 := Lib.hid SA; clear hb EA SA)
        | (go_at_call 14; (with_reducible refine (contains_zero _ HE4 HES (by omega) HV1).mono ?_); rintro e w5 ⟨rfl, hb⟩; have B5 := pstep B4 hb; have HS5 := Lib.hid (HS4.out.step hb); clear hb)
        | fail)
      go_loopw [58] (fun i wr => ∃ j : Nat, j ≤ k ∧ i = .int .i64 j ∧ CntRow wr w5.heap.size l j ∧ Below w5.heap.size w5 wr) (fun i _ => k - (intOf i).toNat)
      case atStart =>
        refine ⟨0, Nat.zero_le _, rfl, ⟨_, heap_alloc_new w5 _, fun c hc => ?_⟩, below_alloc _ _⟩
        have e0 : cntTo l c 0 = 0 := rfl
        rw [e0]
        have h8 : c = 0 ∨ c = 1 ∨ c = 2 ∨ c = 3 ∨ c = 4 ∨ c = 5 ∨ c = 6 ∨ c = 7 := by omega
        rcases h8 with rfl | rfl | rfl | rfl | rfl | rfl | rfl | rfl <;> rfl
      case round =>
        obtain ⟨j, hj, rfl, CR, BB⟩ := hrel
        by_cases hjk : j < k
        · obtain ⟨s, hs⟩ : ∃ s, l[j]? = some s := ⟨l[j]'(by rw [HL.out]; exact hjk), List.getElem?_eq_getElem _⟩
          obtain ⟨a, v⟩ := s
          have hv0 : 0 < v := HV2.out j _ hjk hs
          have ha8 : a < 8 := by
            rcases HG.out.1 j _ hs with e | e
            · rw [zs, SlotT.mk.injEq] at e
              omega
            · have := e.1
              simp only at this
              omega
          obtain ⟨sb, so, hsa, hsb, g0, g1⟩ := at_slot (HS5.out.step BB) hs
          subst hsa
          simp only at g0 g1
          have hle := cntTo_le l a j
          rw [HL.out] at hle
          have c0 := CR.cell ha8
          have f0 := CR.frozen a
          have hN := CR.lt
          have HC := Lib.hid ((CR.more hs ha8 hv0).step (below_alloc _ (.cells #[.int .i64 (a : Int), .int .i64 (v : Int)] 31)))
          clear CR hs
          go_wp2_with fail
          go_roundw
          case rel => exact ⟨j + 1, by omega, by go_num, HC.out, (BB.setCell (p := ⟨w5.heap.size, a, none⟩) (Nat.le_refl _) _).alloc (by simpa using BB.size) _⟩
          case measure => simp [intOf]; omega
        · obtain rfl : j = k := by omega
          have HCR := Lib.hid CR
          have B6 := Lib.hid (pstep B5 BB)
          clear hjk hj CR BB
          go_wp2_with fail
          go_loopw [70] (fun i wr2 => ∃ c : Nat, c ≤ cores ∧ i = .int .i64 c ∧ Below wr.heap.size wr wr2) (fun i _ => cores - (intOf i).toNat)
          case atStart => exact ⟨0, Nat.zero_le _, rfl, Below.refl _ _⟩
          case round =>
            obtain ⟨c, hc, rfl, BB⟩ := hrel
            by_cases hcl : c < cores
            · have hD := HD.out c hcl
              have c0 := (HCR.out.step BB).cell (c := c) (by omega)
              rw [← HL.out, cntTo_all] at c0
              have hx2000 : cntV l c ≤ j := by have := cnt_le l c; rw [HL.out] at this; exact this
              generalize cntV l c = x at hD c0 hx2000
              obtain ⟨lo, hlo⟩ : ∃ lo, j / cores = lo := ⟨_, rfl⟩
              obtain ⟨hi', hhi⟩ : ∃ hi', (j + cores - 1) / cores = hi' := ⟨_, rfl⟩
              rw [hlo, hhi] at hD
              have q1 : (j : Int) / (cores : Int) = (lo : Int) := by rw [← hlo]; exact (Int.natCast_ediv j cores).symm
              have q2 : ((j : Int) + (cores : Int) - 1) / (cores : Int) = (hi' : Int) := by
                rw [← hhi, show (j : Int) + (cores : Int) - 1 = ((j + cores - 1 : Nat) : Int) by omega]
                exact (Int.natCast_ediv _ _).symm
              have d1 : decide ((x : Int) < (lo : Int)) = false := decide_eq_false (by omega)
              have d2 : decide ((hi' : Int) < (x : Int)) = false := decide_eq_false (by omega)
              have d3 : ¬ x < lo := by omega
              have d4 : ¬ hi' < x := by omega
              have hlo2 : lo ≤ j := by rw [← hlo]; exact Nat.div_le_self _ _
              have hhi2 : hi' ≤ j + cores - 1 := by rw [← hhi]; exact Nat.div_le_self _ _
              clear hD hlo hhi
              go_wp2_with fail
              go_quiet (fail)
              go_wp2_with fail
              go_roundw
              case rel => exact ⟨c + 1, by omega, by go_num, below_drewN BB _⟩
              case measure => simp [intOf]; omega
            · obtain rfl : c = cores := by omega
              clear hcl hc
              go_wp2_with fail
              go_ret
              exact ⟨rfl, pstep B6.out BB⟩
end Go.Proofs.YtmjcicpmkmagfaaDoor
