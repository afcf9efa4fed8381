/- The walk of VectorMeant, where the numbers are in range. -/
import Derived.Test.YtmldedkmmhnihaaDoorVMeant
import Derived.Test.YtmldedkmmhnihaaDoorVecM
import Derived.Deep.RegionLaw
namespace Go.Proofs.YtmldedkmmhnihaaDoor
open Go.RowKit

set_option maxHeartbeats 16000000 in
set_option maxRecDepth 100000 in
theorem vmeant_ok {ad : Option Addr} {cap m : Nat} {ops : List VopT} (w : World) (hT : Hid (Tab w)) (cores n : Nat) (h1 : 1 ≤ cores) (h8 : cores ≤ 8) (hn : n ≤ 2000) (K L M : Int) (HA : Hid (shO.At w ad cap ops)) (hm : Hid (ops.length = m)) (hm2 : m ≤ 5864062014634) (l l2 : List SlotT) (es es2 : List Int) (HR : Hid (runV cores n ops = (l, es))) (HR2 : Hid (runV cores n (ops ++ [⟨K, L, M⟩]) = (l2, es2))) (HLL : Hid (l.length = n)) (HH : Hid ((∃ x : Int, es2[m]? = some x ∧ ¬ x = 0 ∧ l2 = l) ∨ (es2[m]? = some 0 ∧ ∃ i : Nat, L = (i : Int) ∧ i < n ∧ (∀ j : Nat, ¬ j = i → l2[j]? = l[j]?) ∧ ((K = 2 ∧ l2[i]? = some ⟨0, 0⟩) ∨ (K = 1 ∧ ∃ c v : Nat, c < 8 ∧ l2[i]? = some ⟨c, v⟩ ∧ (IntKind.u64.wrap M / 2 ^ c).tmod 2 = 1) ∨ (K = 3 ∧ ∃ c v c2 v2 : Nat, c < 8 ∧ l2[i]? = some ⟨c, v⟩ ∧ l[i]? = some ⟨c2, v2⟩ ∧ ¬ c = c2 ∧ (IntKind.u64.wrap M / 2 ^ c).tmod 2 = 1))))) :
    Calls Tryd.prog 3 #[.int .i64 cores, .int .i64 n, .slice ad m cap, .agg #[.int .i64 K, .int .i64 L, .int .i64 M]] w fun e w' => e = .returned (.bool true) ∧ Below w.heap.size w w' := by
  obtain ⟨i0, hi, hz0, hz1, hz2⟩ := info_parts info_op
  have B0 := below_alloc w (.cells #[.int .i64 K, .int .i64 L, .int .i64 M] 24)
  have HT0 := Lib.hid (tab_step hT.out B0)
  have HA0 := Lib.hid (HA.out.step B0)
  have O0 := Lib.hid (heap_alloc_new w (.cells #[.int .i64 K, .int .i64 L, .int .i64 M] 24))
  go_enter Tryd.func3, Tryd.ntmps3
  go_upto_region 4 with (first
    | (go_at_call 5; (with_reducible refine (alive4_R _ HT0).mono ?_); rintro e w1 ⟨rfl, hb⟩; have B1 := pstep B0 hb; have HA1 := Lib.hid (HA0.out.step hb); have HT1 := Lib.hid (tab_step HT0.out hb); have O1 := Lib.hid ((hb.block w.heap.size (by simp)).trans O0.out); clear hb)
    | (go_at_call 6; (with_reducible refine (play_ok _ HT1 cores n h1 h8 hn HA1 hm (by omega) l es HR).mono ?_); rintro e w2 ⟨ea, ec, sa, sc, rfl, EA, SA, hb⟩; have B2 := pstep B1 hb; have HA2 := Lib.hid (HA1.out.step hb); have HT2 := Lib.hid (tab_step HT1.out hb); have hO1 := (Array.getElem?_eq_some_iff.1 O1.out).1; have O2 := Lib.hid ((hb.block w.heap.size hO1).trans O1.out); have HS2 := Lib.hid SA; clear hb hO1 EA SA)
    | fail)
  have c0 : w2.cell? ⟨w.heap.size, 0, none⟩ = some (.int .i64 K) := by rw [cell_of_row w2 _ _ _ _ _ O2.out]; rfl
  have c1 : w2.cell? ⟨w.heap.size, 1, none⟩ = some (.int .i64 L) := by rw [cell_of_row w2 _ _ _ _ _ O2.out]; rfl
  have c2 : w2.cell? ⟨w.heap.size, 2, none⟩ = some (.int .i64 M) := by rw [cell_of_row w2 _ _ _ _ _ O2.out]; rfl
  have hO2 := (Array.getElem?_eq_some_iff.1 O2.out).1
  have hS2 := B2.size
  have HNEW : ∀ (b : Nat) (w' : World), w'.cell? ⟨b, 0, none⟩ = some (.int .i64 K) → w'.cell? ⟨b, 1, none⟩ = some (.int .i64 L) → w'.cell? ⟨b, 2, none⟩ = some (.int .i64 M) → ∀ j u, ([.int .i64 K, .int .i64 L, .int .i64 M] : List Value)[j]? = some u → w'.cell? ((⟨b, 0, none⟩ : Addr).add j) = some u := by
    intro b w' h0 h1 h2 j u hj
    rw [Go.WideShapes.add_plain, Nat.zero_add]
    have h3 : j = 0 ∨ j = 1 ∨ j = 2 := by
      have := (List.getElem?_eq_some_iff.1 hj).1
      simp at this
      omega
    rcases h3 with rfl | rfl | rfl <;> simp at hj <;> subst hj <;> assumption
  have HONE : ∀ u ∈ ([.int .i64 K, .int .i64 L, .int .i64 M] : List Value), u.oneCell' = true := by
    intro u hu
    simp at hu
    rcases hu with rfl | rfl | rfl <;> rfl
  go_cut [12, 13, 14] from 27 (fun x y z wy => ∃ (ea2 : Option Addr) (ec2 : Nat) (sa2 : Option Addr) (sc2 : Nat), x = .slice ea2 (m + 1) ec2 ∧ y = .slice sa2 n sc2 ∧ z = .int .i64 0 ∧ shE.At wy ea2 ec2 es2 ∧ shS.At wy sa2 sc2 l2 ∧ Below w2.heap.size w2 wy)
  case first =>
    go_region_law (first
      | (go_simp; go_at_call 7; (with_reducible refine (clone_ops ops ad m cap (w2.drew) hm (Lib.hid (HA2.out.step ((Below.refl _ w2).drew))) hm2).mono ?_); rintro e w3 ⟨ra, rc, rfl, own, hb⟩; have GO := bat' hb w.heap.size (by simp; omega); have B3 : Below w2.heap.size w2 w3 := pstep ((Below.refl _ w2).drew) hb; have S3b : w2.heap.size ≤ w3.heap.size := (by have := hb.size; simp at this; omega); have OW := Lib.hid own; have HWB : ∀ k, (Value.slice ra m rc).ownBlock = some k → w2.heap.size ≤ k := (fun k hk => by have := (own.lt k hk).1; simp at this; omega); clear hb own)
      | (go_simp; go_at_call 7; (with_reducible refine (clone_ops ops ad m cap ((w2.alloc (.cells #[.int .i64 K, .int .i64 L, .int .i64 M] 24)).drew) hm (Lib.hid (HA2.out.step ((below_alloc w2 (.cells #[.int .i64 K, .int .i64 L, .int .i64 M] 24)).drew))) hm2).mono ?_); rintro e w3 ⟨ra, rc, rfl, own, hb⟩; have GO := bat' hb w.heap.size (by simp; omega); have GL := bat' hb w2.heap.size (by simp); have B3 : Below w2.heap.size w2 w3 := pstep ((below_alloc w2 (.cells #[.int .i64 K, .int .i64 L, .int .i64 M] 24)).drew) hb; have S3b : w2.heap.size ≤ w3.heap.size := (by have := hb.size; simp at this; omega); have OW := Lib.hid own; have HWB : ∀ k, (Value.slice ra m rc).ownBlock = some k → w2.heap.size ≤ k := (fun k hk => by have := (own.lt k hk).1; simp at this; omega); clear hb own)
      | (refine step_append_lies _ rfl _ _ 22 rfl _ 24 i0 _ 3 24 Tryd.underlying22 hi hz0 hz1 hz2 rfl (by decide) (.slice ra m rc) m (shO.flat ops) rfl (own_alloc OW.out _) ⟨w3.heap.size, 0, none⟩ 1 1 [.int .i64 K, .int .i64 L, .int .i64 M] rfl rfl (HNEW _ _ (by go_simp) (by go_simp) (by go_simp)) HONE (by decide) (by unfold maxLen; omega) (by omega) (by simp; try omega) _ rfl ?_; intro g4 rc2 w4 own4 grow4 _ _; have B24 := (below_more B3 _).grown grow4 (Below.size (below_more B3 _)) HWB; have B4 := pstep B2 B24; have HA4 : Hid (shO.At w4 (some ⟨g4, 0, none⟩) rc2 (ops ++ [⟨K, L, M⟩])) := Lib.hid (own_at (by rw [shO.flat_app]; exact own4) (by simp [hm.out])); have HT4 := Lib.hid (tab_step HT2.out B24); have HM4 : Hid ((ops ++ [(⟨K, L, M⟩ : VopT)]).length = m + 1) := Lib.hid (by simp [hm.out]); clear own4 grow4)
      | (refine step_append_lies _ rfl _ _ 22 rfl _ 24 i0 _ 3 24 Tryd.underlying22 hi hz0 hz1 hz2 rfl (by decide) (.slice ra m rc) m (shO.flat ops) rfl (OW.out) ⟨w2.heap.size, 0, none⟩ 1 1 [.int .i64 K, .int .i64 L, .int .i64 M] rfl rfl (HNEW _ _ (by go_simp) (by go_simp) (by go_simp)) HONE (by decide) (by unfold maxLen; omega) (by omega) (by simp; try omega) _ rfl ?_; intro g4 rc2 w4 own4 grow4 _ _; have B24 := B3.grown grow4 (Below.size B3) HWB; have B4 := pstep B2 B24; have HA4 : Hid (shO.At w4 (some ⟨g4, 0, none⟩) rc2 (ops ++ [⟨K, L, M⟩])) := Lib.hid (own_at (by rw [shO.flat_app]; exact own4) (by simp [hm.out])); have HT4 := Lib.hid (tab_step HT2.out B24); have HM4 : Hid ((ops ++ [(⟨K, L, M⟩ : VopT)]).length = m + 1) := Lib.hid (by simp [hm.out]); clear own4 grow4)
      | (go_simp; go_at_call 6; (with_reducible refine (play_ok _ HT4 cores n h1 h8 hn HA4 HM4 (by omega) l2 es2 HR2).mono ?_); rintro e w5 ⟨ea2, ec2, sa2, sc2, rfl, EA, SA, hb⟩; have B5 := pstep B24 hb; clear hb))
    all_goals go_wp2_with fail
    all_goals go_meet
    all_goals exact ⟨_, _, _, _, rfl, rfl, rfl, EA, SA, B5⟩
  case rest =>
    obtain ⟨ea2, ec2, sa2, sc2, rfl, rfl, rfl, EA, SA, BB⟩ := hcut
    have HS5 := Lib.hid (HS2.out.step BB)
    have HS6 := Lib.hid SA
    have B5 := pstep B2 BB
    have O5 := Lib.hid ((BB.block w.heap.size hO2).trans O2.out)
    have HEA := Lib.hid EA
    clear EA SA HNEW HONE c0 c1 c2
    rcases HH.out with ⟨x, hx, hx0, hsame⟩ | ⟨hx, i, hL, hi0, hoth, hcase⟩
    · obtain ⟨eb, eo, hea, heb, ce⟩ := at_err HEA.out hx
      subst hea
      clear hx
      have HS7 : Hid (shS.At wc sa2 sc2 l) := by rw [← hsame]; exact HS6
      clear hsame HH
      go_wp2_with (first
        | (go_at_call 8; (with_reducible refine (equalS (n := n) _ HLL HS5.out HS7.out (by omega)).mono ?_); rintro e w6 ⟨rfl, hb⟩; have B6 := pstep B5 hb; clear hb)
        | fail)
      go_ret
      exact ⟨rfl, B6⟩
    · obtain ⟨eb, eo, hea, heb, ce⟩ := at_err HEA.out hx
      subst hea
      clear hx
      have HOTH := Lib.hid hoth
      clear hoth HH
      rcases hcase with ⟨hK, hsi⟩ | ⟨hK, c, v, hc, hsi, hsh⟩ | ⟨hK, c, v, c2, v2, hc, hsi, hsj, hcc, hsh⟩
      · have HSI := Lib.hid hsi
        clear hsi
        subst hK
        subst hL
        have heq : ∀ (c v : Int) (w : World), (Op.equalIn 10000 34 (.agg #[.int .i64 c, .int .i64 v]) (.agg #[.int .i64 c, .int .i64 v])).run Tryd.prog w = .ok true w := eq_slot
        have hO5 := (Array.getElem?_eq_some_iff.1 O5.out).1
        have ob0 : wc.cell? ⟨w.heap.size, 0, none⟩ = some (.int .i64 2) := by rw [cell_of_row wc _ _ _ _ _ O5.out]; rfl
        have ob1 : wc.cell? ⟨w.heap.size, 1, none⟩ = some (.int .i64 (i : Int)) := by rw [cell_of_row wc _ _ _ _ _ O5.out]; rfl
        have ob2 : wc.cell? ⟨w.heap.size, 2, none⟩ = some (.int .i64 M) := by rw [cell_of_row wc _ _ _ _ _ O5.out]; rfl
        have HO : Hid (∀ w' : World, Below wc.heap.size wc w' → w'.cell? ⟨w.heap.size, 0, none⟩ = some (.int .i64 2) ∧ w'.cell? ⟨w.heap.size, 1, none⟩ = some (.int .i64 (i : Int)) ∧ w'.cell? ⟨w.heap.size, 2, none⟩ = some (.int .i64 M) ∧ w.heap.size < w'.heap.size) := Lib.hid fun w' hb => ⟨(hb.cell (p := ⟨w.heap.size, 0, none⟩) hO5).trans ob0, (hb.cell (p := ⟨w.heap.size, 1, none⟩) hO5).trans ob1, (hb.cell (p := ⟨w.heap.size, 2, none⟩) hO5).trans ob2, Nat.lt_of_lt_of_le hO5 hb.size⟩
        clear ob0 ob1 ob2
        go_wp2_with fail
        go_loopw [71] (fun q wr => ∃ j : Nat, j ≤ n ∧ q = .int .i64 j ∧ Below wc.heap.size wc wr) (fun q _ => n - (intOf q).toNat)
        case atStart => exact ⟨0, Nat.zero_le _, rfl, Below.refl _ _⟩
        case round =>
          obtain ⟨j, hj, rfl, BW⟩ := hrel
          obtain ⟨p0, p1, p2, hp⟩ := HO.out _ BW
          by_cases hjn : j < n
          · by_cases hji : j = i
            · subst hji
              go_wp2_with fail
              go_quiet (fail)
              go_wp2_with fail
              go_roundw
              case rel => exact ⟨j + 1, by omega, by go_num, below_drewN BW _⟩
              case measure => simp [intOf]; omega
            · obtain ⟨s, hs⟩ : ∃ s, l[j]? = some s := ⟨l[j]'(by rw [HLL.out]; exact hjn), List.getElem?_eq_getElem _⟩
              have hs2 : l2[j]? = some s := by rw [HOTH.out j hji]; exact hs
              obtain ⟨a, v⟩ := s
              obtain ⟨sb, so, rfl, hsb, g0, g1⟩ := at_slot (HS5.out.step BW) hs
              obtain ⟨tb, to', rfl, htb, k0, k1⟩ := at_slot (HS6.out.step BW) hs2
              have hne : ¬ (j : Int) = (i : Int) := by omega
              clear hs hs2
              simp only at g0 g1 k0 k1
              go_wp2_with fail
              go_quiet (fail)
              go_wp2_with fail
              go_roundw
              case rel => exact ⟨j + 1, by omega, by go_num, below_drewN BW _⟩
              case measure => simp [intOf]; omega
          · obtain rfl : j = n := by omega
            obtain ⟨tb, to', hta, htb, k0, k1⟩ := at_slot (HS6.out.step BW) HSI.out
            subst hta
            simp only at k0 k1
            go_wp2_with fail
            go_ret
            exact ⟨rfl, pstep B5 (below_more BW _)⟩
      · have HSI := Lib.hid hsi
        clear hsi
        subst hK
        subst hL
        have heq : ∀ (c v : Int) (w : World), (Op.equalIn 10000 34 (.agg #[.int .i64 c, .int .i64 v]) (.agg #[.int .i64 c, .int .i64 v])).run Tryd.prog w = .ok true w := eq_slot
        have hO5 := (Array.getElem?_eq_some_iff.1 O5.out).1
        have ob0 : wc.cell? ⟨w.heap.size, 0, none⟩ = some (.int .i64 1) := by rw [cell_of_row wc _ _ _ _ _ O5.out]; rfl
        have ob1 : wc.cell? ⟨w.heap.size, 1, none⟩ = some (.int .i64 (i : Int)) := by rw [cell_of_row wc _ _ _ _ _ O5.out]; rfl
        have ob2 : wc.cell? ⟨w.heap.size, 2, none⟩ = some (.int .i64 M) := by rw [cell_of_row wc _ _ _ _ _ O5.out]; rfl
        have HO : Hid (∀ w' : World, Below wc.heap.size wc w' → w'.cell? ⟨w.heap.size, 0, none⟩ = some (.int .i64 1) ∧ w'.cell? ⟨w.heap.size, 1, none⟩ = some (.int .i64 (i : Int)) ∧ w'.cell? ⟨w.heap.size, 2, none⟩ = some (.int .i64 M) ∧ w.heap.size < w'.heap.size) := Lib.hid fun w' hb => ⟨(hb.cell (p := ⟨w.heap.size, 0, none⟩) hO5).trans ob0, (hb.cell (p := ⟨w.heap.size, 1, none⟩) hO5).trans ob1, (hb.cell (p := ⟨w.heap.size, 2, none⟩) hO5).trans ob2, Nat.lt_of_lt_of_le hO5 hb.size⟩
        clear ob0 ob1 ob2
        go_wp2_with fail
        go_loopw [71] (fun q wr => ∃ j : Nat, j ≤ n ∧ q = .int .i64 j ∧ Below wc.heap.size wc wr) (fun q _ => n - (intOf q).toNat)
        case atStart => exact ⟨0, Nat.zero_le _, rfl, Below.refl _ _⟩
        case round =>
          obtain ⟨j, hj, rfl, BW⟩ := hrel
          obtain ⟨p0, p1, p2, hp⟩ := HO.out _ BW
          by_cases hjn : j < n
          · by_cases hji : j = i
            · subst hji
              go_wp2_with fail
              go_quiet (fail)
              go_wp2_with fail
              go_roundw
              case rel => exact ⟨j + 1, by omega, by go_num, below_drewN BW _⟩
              case measure => simp [intOf]; omega
            · obtain ⟨s, hs⟩ : ∃ s, l[j]? = some s := ⟨l[j]'(by rw [HLL.out]; exact hjn), List.getElem?_eq_getElem _⟩
              have hs2 : l2[j]? = some s := by rw [HOTH.out j hji]; exact hs
              obtain ⟨a, v⟩ := s
              obtain ⟨sb, so, rfl, hsb, g0, g1⟩ := at_slot (HS5.out.step BW) hs
              obtain ⟨tb, to', rfl, htb, k0, k1⟩ := at_slot (HS6.out.step BW) hs2
              have hne : ¬ (j : Int) = (i : Int) := by omega
              clear hs hs2
              simp only at g0 g1 k0 k1
              go_wp2_with fail
              go_quiet (fail)
              go_wp2_with fail
              go_roundw
              case rel => exact ⟨j + 1, by omega, by go_num, below_drewN BW _⟩
              case measure => simp [intOf]; omega
          · obtain rfl : j = n := by omega
            obtain ⟨tb, to', hta, htb, k0, k1⟩ := at_slot (HS6.out.step BW) HSI.out
            subst hta
            simp only at k0 k1
            go_wp2_with fail
            go_quiet (fail)
            go_wp2_with fail
            go_ret
            exact ⟨rfl, pstep B5 (below_drewN (below_more BW _) _)⟩
      · have HSI := Lib.hid hsi
        have HSJ := Lib.hid hsj
        clear hsi hsj
        subst hK
        subst hL
        have heq : ∀ (c v : Int) (w : World), (Op.equalIn 10000 34 (.agg #[.int .i64 c, .int .i64 v]) (.agg #[.int .i64 c, .int .i64 v])).run Tryd.prog w = .ok true w := eq_slot
        have hO5 := (Array.getElem?_eq_some_iff.1 O5.out).1
        have ob0 : wc.cell? ⟨w.heap.size, 0, none⟩ = some (.int .i64 3) := by rw [cell_of_row wc _ _ _ _ _ O5.out]; rfl
        have ob1 : wc.cell? ⟨w.heap.size, 1, none⟩ = some (.int .i64 (i : Int)) := by rw [cell_of_row wc _ _ _ _ _ O5.out]; rfl
        have ob2 : wc.cell? ⟨w.heap.size, 2, none⟩ = some (.int .i64 M) := by rw [cell_of_row wc _ _ _ _ _ O5.out]; rfl
        have HO : Hid (∀ w' : World, Below wc.heap.size wc w' → w'.cell? ⟨w.heap.size, 0, none⟩ = some (.int .i64 3) ∧ w'.cell? ⟨w.heap.size, 1, none⟩ = some (.int .i64 (i : Int)) ∧ w'.cell? ⟨w.heap.size, 2, none⟩ = some (.int .i64 M) ∧ w.heap.size < w'.heap.size) := Lib.hid fun w' hb => ⟨(hb.cell (p := ⟨w.heap.size, 0, none⟩) hO5).trans ob0, (hb.cell (p := ⟨w.heap.size, 1, none⟩) hO5).trans ob1, (hb.cell (p := ⟨w.heap.size, 2, none⟩) hO5).trans ob2, Nat.lt_of_lt_of_le hO5 hb.size⟩
        clear ob0 ob1 ob2
        go_wp2_with fail
        go_loopw [71] (fun q wr => ∃ j : Nat, j ≤ n ∧ q = .int .i64 j ∧ Below wc.heap.size wc wr) (fun q _ => n - (intOf q).toNat)
        case atStart => exact ⟨0, Nat.zero_le _, rfl, Below.refl _ _⟩
        case round =>
          obtain ⟨j, hj, rfl, BW⟩ := hrel
          obtain ⟨p0, p1, p2, hp⟩ := HO.out _ BW
          by_cases hjn : j < n
          · by_cases hji : j = i
            · subst hji
              go_wp2_with fail
              go_quiet (fail)
              go_wp2_with fail
              go_roundw
              case rel => exact ⟨j + 1, by omega, by go_num, below_drewN BW _⟩
              case measure => simp [intOf]; omega
            · obtain ⟨s, hs⟩ : ∃ s, l[j]? = some s := ⟨l[j]'(by rw [HLL.out]; exact hjn), List.getElem?_eq_getElem _⟩
              have hs2 : l2[j]? = some s := by rw [HOTH.out j hji]; exact hs
              obtain ⟨a, v⟩ := s
              obtain ⟨sb, so, rfl, hsb, g0, g1⟩ := at_slot (HS5.out.step BW) hs
              obtain ⟨tb, to', rfl, htb, k0, k1⟩ := at_slot (HS6.out.step BW) hs2
              have hne : ¬ (j : Int) = (i : Int) := by omega
              clear hs hs2
              simp only at g0 g1 k0 k1
              go_wp2_with fail
              go_quiet (fail)
              go_wp2_with fail
              go_roundw
              case rel => exact ⟨j + 1, by omega, by go_num, below_drewN BW _⟩
              case measure => simp [intOf]; omega
          · obtain rfl : j = n := by omega
            obtain ⟨tb, to', hta, htb, k0, k1⟩ := at_slot (HS6.out.step BW) HSI.out
            subst hta
            simp only at k0 k1
            obtain ⟨sb, so, hsa, hsb, g0, g1⟩ := at_slot (HS5.out.step BW) HSJ.out
            subst hsa
            simp only at g0 g1
            have hcc' : ¬ (c : Int) = (c2 : Int) := by omega
            go_wp2_with fail
            go_quiet (fail)
            go_wp2_with fail
            go_ret
            exact ⟨by simp [hcc'], pstep B5 (below_drewN (below_more BW _) _)⟩
end Go.Proofs.YtmldedkmmhnihaaDoor
