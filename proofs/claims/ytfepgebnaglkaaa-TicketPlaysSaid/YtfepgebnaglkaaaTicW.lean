/- The walks of ticket.check and ticket.perform. -/
import Derived.Test.YtfepgebnaglkaaaTicV
namespace Go.Proofs.Ytfepgebnaglkaaa
open Go.RowKit

theorem errT_kind {l : LockT} {k c : Int} (h : ¬ (k = 1 ∨ k = 2 ∨ k = 3)) : errT true l k c = 5 := by
  unfold errT; rw [if_neg (by decide), if_pos h]
theorem errT_range {l : LockT} {k c : Int} (h : k = 1 ∨ k = 2 ∨ k = 3) (hc : c < 0 ∨ 7 < c) : errT true l k c = 2 := by
  unfold errT; rw [if_neg (by decide), if_neg (fun g => g h), if_pos hc]
theorem errT_ask {l : LockT} {n : Nat} (h : n < 8) : errT true l 1 n = if l.mine n = -1 then (if l.next = 1099511627776 then 4 else 0) else 6 := by
  unfold errT
  rw [if_neg (by decide), if_neg (by decide), if_neg (by omega), Int.toNat_natCast]
  by_cases g : l.mine n = -1
  · rw [if_pos g, if_neg (by rintro ⟨_, q⟩; exact q g)]
    by_cases q : l.next = 1099511627776
    · rw [if_pos ⟨rfl, q⟩, if_pos q]
    · rw [if_neg (by rintro ⟨_, r⟩; exact q r), if_neg q, if_neg (by rintro (⟨r, _⟩ | ⟨r, _⟩) <;> cases r)]
  · rw [if_neg g, if_pos ⟨rfl, g⟩]
theorem errT_look {l : LockT} {n : Nat} (h : n < 8) : errT true l 2 n = if l.mine n = -1 then 3 else 0 := by
  unfold errT
  rw [if_neg (by decide), if_neg (by decide), if_neg (by omega), Int.toNat_natCast, if_neg (by rintro ⟨r, _⟩; cases r), if_neg (by rintro ⟨r, _⟩; cases r)]
  by_cases g : l.mine n = -1
  · rw [if_pos g, if_pos (Or.inl ⟨rfl, g⟩)]
  · rw [if_neg g, if_neg (by rintro (⟨_, r⟩ | ⟨r, _⟩); exact g r; cases r)]
theorem errT_free {l : LockT} {n : Nat} (h : n < 8) : errT true l 3 n = if l.inn n = false then 3 else 0 := by
  unfold errT
  rw [if_neg (by decide), if_neg (by decide), if_neg (by omega), Int.toNat_natCast, if_neg (by rintro ⟨r, _⟩; cases r), if_neg (by rintro ⟨r, _⟩; cases r)]
  by_cases g : l.inn n = false
  · rw [if_pos g, if_pos (Or.inr ⟨rfl, g⟩)]
  · rw [if_neg g, if_neg (by rintro (⟨r, _⟩ | ⟨_, r⟩); cases r; exact g r)]

theorem below_two (w : World) (o o' : Obj) : Below w.heap.size w ((w.alloc o).alloc o') := (below_alloc w o).alloc (by simp) o'
set_option maxHeartbeats 2000000 in
set_option maxRecDepth 100000 in
theorem check_R (l : LockT) (k c x : Int) (R : Array Value) (HR : Hid (lockRow l = R)) (w : World) (HX : Hid (errT true l k c = x)) :
    Calls Try.prog 18 #[.agg R, .agg #[.int .i64 k, .int .i64 c]] w fun e w' => e = .returned (.int .i64 x) ∧ Below w.heap.size w w' := by
  have B0 := Lib.hid (below_two w (.cells R 25) (.cells #[.int .i64 k, .int .i64 c] 27))
  have hx := HX.out
  by_cases hk : k = 1 ∨ k = 2 ∨ k = 3
  · by_cases hc : c < 0
    · rw [errT_range hk (Or.inl hc)] at hx
      subst hx
      rcases hk with rfl | rfl | rfl
      all_goals
        go_enter Try.func18, Try.ntmps18
        go_wp2_with fail
        go_ret
        exact ⟨rfl, B0.out⟩
    by_cases hc2 : 8 ≤ c
    · rw [errT_range hk (Or.inr (by omega))] at hx
      subst hx
      rcases hk with rfl | rfl | rfl
      all_goals
        go_enter Try.func18, Try.ntmps18
        go_wp2_with fail
        go_ret
        exact ⟨rfl, B0.out⟩
    obtain ⟨n, rfl⟩ : ∃ n : Nat, c = n := ⟨c.toNat, by omega⟩
    have hn : n < 8 := by omega
    clear hc hc2
    obtain ⟨m, hm⟩ : ∃ m, l.mine n = m := ⟨_, rfl⟩
    obtain ⟨nx, hnx⟩ : ∃ nx, l.next = nx := ⟨_, rfl⟩
    obtain ⟨t, ht⟩ : ∃ t, l.inn n = t := ⟨_, rfl⟩
    have q0 : R[0]? = some (.int .i64 nx) := by rw [← HR.out, ← hnx]; rfl
    have qm : R[2 + n]? = some (.int .i64 m) := by rw [← HR.out, lockRow_mine _ hn, hm]
    have qt : R[10 + n]? = some (.bool t) := by rw [← HR.out, lockRow_inn _ hn, ht]
    rcases hk with rfl | rfl | rfl
    · rw [errT_ask hn, hm, hnx] at hx
      clear hm hnx ht HX
      by_cases g : m = -1
      · subst g
        rw [if_pos rfl] at hx
        by_cases g2 : nx = 1099511627776
        · subst g2
          rw [if_pos rfl] at hx
          subst hx
          go_enter Try.func18, Try.ntmps18
          go_wp2_with fail
          go_ret
          exact ⟨rfl, B0.out⟩
        · rw [if_neg g2] at hx
          subst hx
          have g3 : (nx == 1099511627776) = false := by simpa using g2
          go_enter Try.func18, Try.ntmps18
          go_wp2_with fail
          go_ret
          exact ⟨rfl, B0.out⟩
      · rw [if_neg g] at hx
        subst hx
        have g3 : (m == -1) = false := by simpa using g
        have g4 : (m != -1) = true := by simpa using g
        go_enter Try.func18, Try.ntmps18
        go_wp2_with fail
        go_ret
        exact ⟨rfl, B0.out⟩
    · rw [errT_look hn, hm] at hx
      clear hm hnx ht HX
      by_cases g : m = -1
      · subst g
        rw [if_pos rfl] at hx
        subst hx
        go_enter Try.func18, Try.ntmps18
        go_wp2_with fail
        go_ret
        exact ⟨rfl, B0.out⟩
      · rw [if_neg g] at hx
        subst hx
        have g3 : (m == -1) = false := by simpa using g
        have g4 : (m != -1) = true := by simpa using g
        go_enter Try.func18, Try.ntmps18
        go_wp2_with fail
        go_ret
        exact ⟨rfl, B0.out⟩
    · rw [errT_free hn, ht] at hx
      clear hm hnx ht HX
      cases t with
      | false =>
        rw [if_pos rfl] at hx
        subst hx
        go_enter Try.func18, Try.ntmps18
        go_wp2_with fail
        go_ret
        exact ⟨rfl, B0.out⟩
      | true =>
        rw [if_neg (by decide)] at hx
        subst hx
        go_enter Try.func18, Try.ntmps18
        go_wp2_with fail
        go_ret
        exact ⟨rfl, B0.out⟩
  · rw [errT_kind hk] at hx
    subst hx
    have g1 : (k == 1) = false := by simp; omega
    have g2 : (k == 2) = false := by simp; omega
    have g3 : (k == 3) = false := by simp; omega
    go_enter Try.func18, Try.ntmps18
    go_wp2_with fail
    go_ret
    exact ⟨rfl, B0.out⟩
end Go.Proofs.Ytfepgebnaglkaaa
