/- corebellref.HPlay$1 whole; corebellref.HPlay$2. -/
import Derived.Test.YtcnnimhdnmmaoaaRnkN
import Derived.Test.YtcnnimhdnmmaoaaRnkG
namespace Go.Proofs.Ytcnnimhdnmmaoaa
open Go.RowKit Go.Maps

section
variable {w w0 : World} {bt bl br m1 m2 h1 h2 n K m : Nat} {rk : Bool} {s : RkT}
theorem one_N (HM : Hid (Mp w bt bl br m1 m2 h1 h2 n K rk m s)) (HB : Hid (Below w0.heap.size w0 w)) (hm1 : w0.heap.size ≤ m1) (hm2 : w0.heap.size ≤ m2) (hK : K ≤ 16) (hn : n ≤ 16) (kind th lk : Int) (hmx : m < maxLen) (x : Int) (hx : Hid (errK n K rk s kind th lk = x)) :
    Calls Try.prog 21 #[.agg #[.int .i64 kind, .int .i64 th, .int .i64 lk], .pointer (some ⟨bt, 0, none⟩), .pointer (some ⟨bl, 0, none⟩), .pointer (some ⟨h1, 0, none⟩), .pointer (some ⟨h2, 0, none⟩), .pointer (some ⟨br, 0, none⟩)] w fun e w' => OneP w0 w bt bl br m1 m2 h1 h2 n K rk m (newK x s kind th lk) x e w' := by
  have hX := hx.out
  unfold errK at hX
  by_cases k1 : kind = 1 ∨ kind = 2
  · rw [if_neg (fun h => h k1)] at hX
    by_cases r : th < 0 ∨ (n : Int) ≤ th ∨ lk < 0 ∨ (K : Int) ≤ lk
    · rw [if_pos r] at hX
      subst hX
      rw [new_no (by decide) (by decide)]
      exact one_range HM HB kind th lk k1 r
    · rw [if_neg r] at hX
      obtain ⟨t, rfl⟩ : ∃ t : Nat, th = t := ⟨th.toNat, by omega⟩
      obtain ⟨l, rfl⟩ : ∃ l : Nat, lk = l := ⟨lk.toNat, by omega⟩
      rw [Int.toNat_natCast, Int.toNat_natCast] at hX
      have ht : t < n := by omega
      have hl : l < K := by omega
      rcases k1 with rfl | rfl
      · rw [if_neg (by decide)] at hX
        by_cases e3 : s.hold l = t
        · rw [if_pos e3] at hX
          subst hX
          rw [new_no (by decide) (by decide)]
          exact one_take_held HM HB hK hn t l ht hl e3
        · have hx2 : Hid (takeX K rk s t l = x) := Lib.hid (by unfold takeX; exact hX)
          by_cases e1 : s.hold l = -1
          · exact one_take_free HM HB hm1 hm2 hK hn t l ht hl e1 hmx x hx2
          · exact one_take_other HM HB hm2 hK hn t l ht hl e1 e3 hmx x hx2
      · rw [if_pos rfl] at hX
        by_cases e3 : s.hold l = t
        · by_cases e2 : s.wait t = -1
          · rw [if_neg (by simp [e3, e2])] at hX
            subst hX
            rw [new_give]
            exact one_give HM HB hm1 hK hn t l ht hl e3 e2
          · rw [if_pos (Or.inr e2)] at hX
            subst hX
            rw [new_no (by decide) (by decide)]
            exact one_give_waits HM HB hK hn t l ht hl e3 e2
        · rw [if_pos (Or.inl e3)] at hX
          subst hX
          rw [new_no (by decide) (by decide)]
          by_cases e1 : s.hold l = -1
          · exact one_give_free HM HB hK hn t l ht hl e1
          · exact one_give_other HM HB hK hn t l ht hl e1 e3
  · rw [if_pos k1] at hX
    subst hX
    rw [new_no (by decide) (by decide)]
    exact one_kind HM HB kind th lk (fun h => k1 (Or.inl h)) (fun h => k1 (Or.inr h))
end
theorem rowL_succ (f : Nat → Int) (k : Nat) : rowL f (k + 1) = rowL f k ++ [f k] := by
  unfold rowL; rw [List.range_succ, List.map_append]; rfl
set_option maxHeartbeats 2000000 in
set_option maxRecDepth 100000 in
theorem list_N {b m n : Nat} {f : Nat → Int} (w : World) (HM : Hid (MapT w b m n f)) (hn : n ≤ 16) :
    Calls Try.prog 22 #[.map (some b), .int .i64 n] w fun e w' => ∃ ra rc, e = .returned (.slice ra n rc) ∧ shI.At w' ra rc (rowL f n) ∧ Below w.heap.size w w' := by
  obtain ⟨i0, hi, hz0, hz1, hz2⟩ := info_parts' info_int
  obtain ⟨D, o1, T1⟩ := HM.out
  have O1 := Lib.hid o1
  have HT := Lib.hid T1
  clear o1 T1
  go_enter Try.func22, Try.ntmps22
  go_wp2_with fail
  have R0 := Lib.hid (World.ownsRow_nil w w.heap.size 3 1)
  go_loopw [5, 10] (fun p i wr => ∃ (k : Nat) (ra : Option Addr) (rc : Nat), k ≤ n ∧ i = .int .i64 k ∧ p = .slice ra k rc ∧ Hid (wr.ownsRow w.heap.size 3 1 (.slice ra k rc) k (shI.flat (rowL f k))) ∧ Hid (Below w.heap.size w wr)) (fun _ i _ => n - (intOf i).toNat)
  case atStart => exact ⟨0, none, 0, Nat.zero_le _, rfl, rfl, R0, Lib.hid (Below.refl _ _)⟩
  case round =>
    clear R0
    obtain ⟨k, ra, rc, hk, rfl, rfl, HO, HB⟩ := hrel
    by_cases hlt : k < n
    · have WFk : (Lit.int .i64 (k : Int)).wf = true := WalkArith.wf_i64 (by omega)
      have P1 := Lib.hid (own_same O1.out (HB.out.block _ O1.out.lt))
      have hh := HT.out.has k hlt
      have HG := Lib.hid (fun c (hc : D.atKey (.int .i64 k) (.lit (.int .i64 0)) = .lit (.int .i64 c)) => HT.out.got hlt hc)
      unfold gotZ at HG
      obtain ⟨v, hv⟩ : ∃ v, f k = v := ⟨_, rfl⟩
      rw [hv] at hh HG
      have HLEN := Lib.hid (rowL_len f k)
      have HEQ : Hid (rowL f k ++ [v] = rowL f (k + 1)) := Lib.hid (by rw [rowL_succ, hv])
      have O4 := Lib.hid (own_step HO.out (below_alloc wr (.cells #[.int .i64 v] 3)))
      have B4 := Lib.hid (pstep HB.out (below_alloc wr (.cells #[.int .i64 v] 3)))
      have X4 := Lib.hid (lit1 wr v 3 1)
      have hbase : w.heap.size ≤ (wr.alloc (.cells #[.int .i64 v] 3)).heap.size := B4.out.size
      clear hv
      by_cases e : v = -1
      · subst e
        rw [decide_eq_true rfl] at hh
        rw [if_pos rfl] at HG
        simp only [Bool.not_true] at hh
        go_wp2_with (first
          | (at_lookup; refine wpList_lookup_own_ok_int _ rfl _ _ 44 rfl 3 3 .i64 lawI Try.underlying44 Try.underlying3 (zeroI _) b m D rfl P1.out _ (.int .i64 (k : Int)) rfl (keyOf_int_mk Try.underlying3 WFk) ?_; intro c hc _; obtain rfl : (0 : Int) = c := (HG.out c hc).symm)
          | (at_builtin; refine wpList_append_n shI rfl _ _ 24 rfl w.heap.size 3 i0 _ 8 Try.underlying24 hi hz0 hz1 hz2 rfl (.slice ra k rc) k (rowL f k) [(-1 : Int)] HLEN rfl O4.out (some ⟨wr.heap.size, 0, none⟩) 1 1 rfl (Lib.hid rfl) X4.out (by unfold maxLen; omega) (by omega) hbase ?_)
          | fail)
        intro ra5 rc5 w5 own5 grow5 _
        have B5 := Lib.hid (B4.out.grown grow5 B4.out.size (fun k hk => (own_lt O4.out hk).1))
        have O5 := Lib.hid own5
        rw [HEQ.out] at O5
        clear own5 grow5
        go_wp2_with fail
        go_roundw
        case rel => exact ⟨k + 1, ra5, rc5, by omega, by go_num, rfl, O5, B5⟩
        case measure => simp [intOf]; omega
      · rw [decide_eq_false e] at hh
        rw [if_neg e] at HG
        simp only [Bool.not_false] at hh
        go_wp2_with (first
          | (at_lookup; refine wpList_lookup_own_ok_int _ rfl _ _ 44 rfl 3 3 .i64 lawI Try.underlying44 Try.underlying3 (zeroI _) b m D rfl P1.out _ (.int .i64 (k : Int)) rfl (keyOf_int_mk Try.underlying3 WFk) ?_; intro c hc _; obtain rfl : v = c := (HG.out c hc).symm)
          | (at_builtin; refine wpList_append_n shI rfl _ _ 24 rfl w.heap.size 3 i0 _ 8 Try.underlying24 hi hz0 hz1 hz2 rfl (.slice ra k rc) k (rowL f k) [v] HLEN rfl O4.out (some ⟨wr.heap.size, 0, none⟩) 1 1 rfl (Lib.hid rfl) X4.out (by unfold maxLen; omega) (by omega) hbase ?_)
          | fail)
        intro ra5 rc5 w5 own5 grow5 _
        have B5 := Lib.hid (B4.out.grown grow5 B4.out.size (fun k hk => (own_lt O4.out hk).1))
        have O5 := Lib.hid own5
        rw [HEQ.out] at O5
        clear own5 grow5
        go_wp2_with fail
        go_roundw
        case rel => exact ⟨k + 1, ra5, rc5, by omega, by go_num, rfl, O5, B5⟩
        case measure => simp [intOf]; omega
    · obtain rfl : k = n := by omega
      clear hlt hk
      go_wp2_with fail
      go_ret
      exact ⟨ra, rc, rfl, Shape.At.own (S := shI) HO.out (rowL_len _ _), HB.out⟩
end Go.Proofs.Ytcnnimhdnmmaoaa
