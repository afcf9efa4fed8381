/- corebellref's EOrder. -/
import Derived.Test.YtocemkbplgkalaaSprEp
import Derived.Test.YtocemkbplgkalaaSprRv
import Derived.Test.YtocemkbplgkalaaSprO
namespace Go.Proofs.Ytocemkbplgkalaa
open Go.RowKit

theorem own_alloc {w : World} {base e size n : Nat} {v : Value} {xs : List Value} (h : w.ownsRow base e size v n xs) (o : Obj) : (w.alloc o).ownsRow base e size v n xs := by
  obtain ⟨h1, h2⟩ := h
  refine ⟨h1, ?_⟩
  rcases h2 with h2 | ⟨g, cap, cur, hv, hg, hh, r⟩
  · exact Or.inl h2
  · exact Or.inr ⟨g, cap, cur, hv, hg, by rw [Below.heap_alloc _ _ _ ((Array.getElem?_eq_some_iff.1 hh).1)]; exact hh, r⟩
theorem lit1_at (w : World) (v : Int) : shI.At (w.alloc (.cells #[.int .i64 v] 3)) (some ⟨w.heap.size, 0, none⟩) 1 [v] :=
  ⟨(fun h => by cases h), fun _ => ⟨w.heap.size, 0, rfl, by simp, fun k hk => by
    have hk0 : k = 0 := by simpa [shI] using hk
    subst hk0
    rw [cell_of_row _ _ _ _ _ _ (heap_alloc_new w _)]
    rfl⟩⟩
/-- The first j numbers of an order, in a slice of the call's own. -/
def OutAt (base : Nat) (w : World) (ad : Option Addr) (cap j : Nat) (O : Nat → Nat) : Prop := w.ownsRow base 3 1 (.slice ad j cap) j (shI.flat ((List.range j).map fun i => (O i : Int)))
theorem OutAt.at {base : Nat} {w : World} {ad : Option Addr} {cap j : Nat} {O : Nat → Nat} (h : OutAt base w ad cap j O) : IntAt w ad cap j (fun i => (O i : Int)) := (own_list h).at
theorem out_next (O : Nat → Nat) (j b : Nat) : ((List.range j).map fun i => (O i : Int)) ++ [(b : Int)] = (List.range (j + 1)).map fun i => ((upd O j b i : Nat) : Int) := by
  rw [List.range_succ, List.map_append]
  congr 1
  · refine List.map_congr_left fun i hi => ?_
    rw [upd_other (by have := List.mem_range.1 hi; omega)]
  · simp [upd_same]
theorem has_out (O : Nat → Nat) (j k : Nat) : (hasF (fun i => (O i : Int)) (k : Int) j = true) ↔ InO O j k := has_cast O k j
theorem own_from {base : Nat} {w : World} {ad : Option Addr} {cap j : Nat} {O : Nat → Nat} (h : OutAt base w ad cap j O) : ∀ g, (Value.slice ad j cap).ownBlock = some g → base ≤ g := fun g hg => by
  rcases own_list h with ⟨rfl, _⟩ | ⟨B, rfl, hB, _⟩
  · simp [Value.ownBlock] at hg
  · simp only [Value.ownBlock, Option.some.injEq] at hg
    omega
/-- What EOrder gives. -/
def EOut (W : World) (kw : Nat → Nat) (n : Nat) (e : Ending) (w' : World) : Prop :=
  ∃ (ra : Option Addr) (rc : Nat) (O : Nat → Nat), e = .returned (.slice ra n rc) ∧ IntAt w' ra rc n (fun i => (O i : Int)) ∧ Perm O n ∧ Srt kw O 0 n ∧ Below W.heap.size W w'
set_option maxHeartbeats 1000000 in
set_option maxRecDepth 100000 in
theorem eorder_R {ad : Option Addr} {cap n : Nat} {ws kw : Nat → Nat} (lg : Bool) (hk : Hid (kw = if lg = true then ws else fun _ => 0)) (w : World) (HA : Hid (IntAt w ad cap n (fun i => (ws i : Int)))) (hn : n ≤ 400) :
    Calls Try.prog 16 #[.slice ad n cap, .bool lg] w (EOut w kw n) := by
  obtain ⟨i0, hi, hz0, hz1, hz2⟩ := info_parts1
  go_enter Try.func16, Try.ntmps16
  go_wp2_with fail
  go_loopw [5] (fun o wr => ∃ (j : Nat) (oa : Option Addr) (oc : Nat) (O : Nat → Nat), j ≤ n ∧ o = .slice oa j oc ∧ OutAt w.heap.size wr oa oc j O ∧ Ord kw n O j ∧ Below w.heap.size w wr) (fun o _ => n - lenOf o)
  case atStart => exact ⟨0, none, 0, fun _ => 0, Nat.zero_le _, rfl, World.ownsRow_nil _ _ _ _, Ord.start _ _ _, Below.refl _ _⟩
  case round =>
    obtain ⟨j, oa, oc, O, hj, rfl, ho, hd, hb⟩ := hrel
    have HO := Lib.hid ho
    have HD := Lib.hid hd
    have HB := Lib.hid hb
    have HOA := Lib.hid ho.at
    by_cases hjn : j < n
    · obtain ⟨wo, rfl⟩ : ∃ wo : World, wo = wr := ⟨_, rfl⟩
      have HAW := Lib.hid (HA.out.step hb)
      obtain ⟨qb, qo, hqe, hqb, hcw⟩ := HAW.out.2 (by omega)
      subst hqe
      have HCW := Lib.hid hcw
      clear ho hd hb hcw
      go_wp2_with fail
      go_loop [6, 16] (fun r i => ∃ (k : Nat) (q : Int), k ≤ n ∧ i = .int .i64 k ∧ r = .int .i64 q ∧ Sel kw O j k q) (fun _ i => n - (intOf i).toNat)
      case atStart => exact ⟨0, -1, Nat.zero_le _, rfl, rfl, Sel.start _ _ _⟩
      case round =>
        obtain ⟨k, q, hkn, rfl, rfl, hs⟩ := hrel
        have HS := Lib.hid hs
        have hrg := hs.range
        clear hs
        by_cases hlt : k < n
        · have ck := HCW.out k hlt
          obtain ⟨x, hx⟩ : ∃ x, ws k = x := ⟨_, rfl⟩
          simp only [hx] at ck
          have HX := Lib.hid hx
          clear hx
          have j9 : j ≤ 9223372036854775807 := by omega
          obtain ⟨al, hal⟩ : ∃ al, hasF (fun i => (O i : Int)) (k : Int) j = al := ⟨_, rfl⟩
          have HAL := Lib.hid hal
          clear hal
          cases al with
          | true =>
            have HN := Lib.hid (HS.out.skip ((has_out O j k).1 HAL.out))
            go_wp2_with (first
              | (go_at_call 28; (with_reducible refine (contains_R (k : Int) _ HOA j9 true HAL).mono ?_); rintro e w1 ⟨rfl, rfl⟩)
              | fail)
            go_round
            case rel => exact ⟨k + 1, q, by omega, by go_num, rfl, HN.out⟩
            case measure => simp [intOf]; omega
          | false =>
            have HNI : Hid (¬ InO O j k) := Lib.hid fun h => by have := (has_out O j k).2 h; rw [HAL.out] at this; cases this
            rcases hrg with rfl | ⟨b, rfl, hbk⟩
            · have HN := Lib.hid (HS.out.first HNI.out)
              go_wp2_with (first
                | (go_at_call 28; (with_reducible refine (contains_R (k : Int) _ HOA j9 false HAL).mono ?_); rintro e w1 ⟨rfl, rfl⟩)
                | fail)
              go_round
              case rel => exact ⟨k + 1, k, by omega, by go_num, rfl, HN.out⟩
              case measure => simp [intOf]; omega
            · have t0 : ¬ (b : Int) < 0 := by omega
              have t0' : decide ((b : Int) < 0) = false := decide_eq_false t0
              cases lg with
              | false =>
                have HN := Lib.hid (HS.out.keep (show ¬ kw b < kw k by rw [hk.out]; simp))
                go_wp2_with (first
                  | (go_at_call 28; (with_reducible refine (contains_R (k : Int) _ HOA j9 false HAL).mono ?_); rintro e w1 ⟨rfl, rfl⟩)
                  | fail)
                go_round
                case rel => exact ⟨k + 1, b, by omega, by go_num, rfl, HN.out⟩
                case measure => simp [intOf]; omega
              | true =>
                have cb := HCW.out b (by omega)
                obtain ⟨y, hy⟩ : ∃ y, ws b = y := ⟨_, rfl⟩
                simp only [hy] at cb
                have HY := Lib.hid hy
                have hbn : (b : Int) < (n : Int) := by omega
                clear hy
                by_cases hyx : y < x
                · have HN := Lib.hid (HS.out.better HNI.out (show kw b < kw k by rw [hk.out]; simp only [if_true]; rw [HY.out, HX.out]; exact hyx))
                  have t1 : (y : Int) < (x : Int) := by omega
                  go_wp2_with (first
                    | (go_at_call 28; (with_reducible refine (contains_R (k : Int) _ HOA j9 false HAL).mono ?_); rintro e w1 ⟨rfl, rfl⟩)
                    | fail)
                  go_round
                  case rel => exact ⟨k + 1, k, by omega, by go_num, rfl, HN.out⟩
                  case measure => simp [intOf]; omega
                · have HN := Lib.hid (HS.out.keep (show ¬ kw b < kw k by rw [hk.out]; simp only [if_true]; rw [HY.out, HX.out]; exact hyx))
                  have t1 : ¬ (y : Int) < (x : Int) := by omega
                  go_wp2_with (first
                    | (go_at_call 28; (with_reducible refine (contains_R (k : Int) _ HOA j9 false HAL).mono ?_); rintro e w1 ⟨rfl, rfl⟩)
                    | fail)
                  go_round
                  case rel => exact ⟨k + 1, b, by omega, by go_num, rfl, HN.out⟩
                  case measure => simp [intOf]; omega
        · obtain rfl : k = n := by omega
          obtain ⟨b, rfl, hbn, hnx⟩ := HD.out.step hjn HS.out
          have HNX := Lib.hid hnx
          have HY := Lib.hid (lit1_at wo (b : Int))
          have HLN : Hid ([(b : Int)].length = 1) := Lib.hid rfl
          obtain ⟨xs, hxs⟩ : ∃ xs, (List.range j).map (fun i => (O i : Int)) = xs := ⟨_, rfl⟩
          have hxl : xs.length = j := by rw [← hxs]; simp
          have hown : (wo.alloc (.cells #[.int .i64 (b : Int)] 3)).ownsRow w.heap.size 3 1 (.slice oa j oc) xs.length (shI.flat xs) := own_alloc (by rw [hxl, ← hxs]; exact HO.out) _
          have HOW := Lib.hid hown
          have HWB : Hid (∀ g, (Value.slice oa j oc).ownBlock = some g → w.heap.size ≤ g) := Lib.hid (own_from HO.out)
          have HXS := Lib.hid hxs
          have HXL := Lib.hid hxl
          clear hlt hkn hrg hnx hown hxs hxl
          go_wp2_with (first
            | (at_builtin; refine wpList_append_at shI rfl _ _ 22 rfl w.heap.size 3 i0 _ 8 Try.underlying22 hi hz0 hz1 hz2 rfl (.slice oa j oc) xs [(b : Int)] rfl HOW.out (some ⟨wo.heap.size, 0, none⟩) 1 1 rfl HLN HY.out ?h63 ?hby ?hba ?_)
            | fail)
          case h63 => rw [HXL.out]; unfold maxLen; omega
          case hby => rw [HXL.out]; omega
          case hba => have := HB.out.size; have h2 := World.size_alloc wo (.cells #[.int .i64 (b : Int)] 3); omega
          intro ra rc w3 own3 grow3 _
          have B3 := Lib.hid ((below_more HB.out (.cells #[.int .i64 (b : Int)] 3)).grown grow3 (by simp; have := HB.out.size; omega) HWB.out)
          have O3 : Hid (OutAt w.heap.size w3 ra rc (j + 1) (upd O j b)) := Lib.hid (by
            have h := own3
            rw [HXL.out, ← HXS.out, out_next] at h
            exact h)
          have e1 : xs.length + 1 = j + 1 := by rw [HXL.out]
          rw [e1]
          clear own3 grow3
          go_wp2_with fail
          go_roundw
          case rel => exact ⟨j + 1, ra, rc, _, by omega, rfl, O3.out, HNX.out, B3.out⟩
          case measure => simp [lenOf]; omega
    · obtain rfl : j = n := by omega
      clear ho hd hb hjn hj
      go_wp2_with fail
      go_ret
      exact ⟨oa, oc, O, rfl, HOA.out, HD.out.all.1, HD.out.all.2, HB.out⟩
end Go.Proofs.Ytocemkbplgkalaa
