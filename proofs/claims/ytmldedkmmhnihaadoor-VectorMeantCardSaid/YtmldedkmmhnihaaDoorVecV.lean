/- vector's remove, has, leastUsed at a table that says what is so of its slots. -/
import Derived.Test.YtmldedkmmhnihaaDoorVecT
import Derived.Test.YtmldedkmmhnihaaDoorVecU
namespace Go.Proofs.YtmldedkmmhnihaaDoor
open Go.RowKit

theorem remove_no (T B k n : Nat) (w : World) (hk : k < n) (h : w.cell? ⟨T, 1, none⟩ = some (.slice (some ⟨B, 0, none⟩) n n)) (h0 : w.cell? ⟨B, k * 2, none⟩ = some (.int .i64 0)) (h1 : w.cell? ⟨B, k * 2 + 1, none⟩ = some (.int .i64 0)) :
    Calls Tryd.prog 16 #[.pointer (some ⟨T, 0, none⟩), .int .i64 k] w fun e w' => (∃ z, e = .returned z) ∧ w = w' := by
  go_enter Tryd.func16, Tryd.ntmps16
  go_wp2_with (first
    | (go_at_call 18; (with_reducible refine (has_no T B k n _ hk h h0 h1).mono ?_); rintro e w2 ⟨rfl, rfl⟩)
    | fail)
  refine bodyPost_ret (v := .tuple #[]) (by simp [results, Tryd.results16, go_sem]) rfl ?_
  exact ⟨⟨_, rfl⟩, rfl⟩
theorem slot_zero {cores i : Nat} {l : List SlotT} (h : GoodV cores l) (hi : i < l.length) (h0 : (l.getD i zs).vec = 0) : l.getD i zs = zs := by
  rcases h.1 i _ (getD_of hi) with e | e
  · exact e
  · omega
theorem has_VS {W : Base} {w : World} {T B cores : Nat} {l : List SlotT} (r : VS W T B cores l w) (k : Nat) (hk : k < l.length) (b : Bool) (hb : decide (0 < (l.getD k zs).vec) = b) :
    Calls Tryd.prog 18 #[.pointer (some ⟨T, 0, none⟩), .int .i64 k] w fun e w' => e = .returned (.bool b) ∧ w = w' := by
  obtain ⟨e0, e1⟩ := r.slot hk
  subst hb
  by_cases h0 : 0 < (l.getD k zs).vec
  · rw [decide_eq_true h0]
    exact has_yes T B k _ _ _ w hk h0 r.head.2 e0 e1
  · rw [decide_eq_false h0]
    have hz := slot_zero r.1.2.2 hk (by omega)
    rw [hz] at e0 e1
    exact has_no T B k _ w hk r.head.2 e0 e1
theorem remove_VS {W : Base} {w : World} {T B cores : Nat} {l : List SlotT} (r : VS W T B cores l w) (i : Nat) (hi : i < l.length) :
    Calls Tryd.prog 16 #[.pointer (some ⟨T, 0, none⟩), .int .i64 i] w fun e w' => (∃ z, e = .returned z) ∧ VS W T B cores (l.set i zs) w' := by
  obtain ⟨e0, e1⟩ := r.slot hi
  have hg := r.1.2.2
  by_cases h0 : 0 < (l.getD i zs).vec
  · obtain ⟨⟨h8, hl, _⟩, fr, tk, hr, ht⟩ := r
    obtain ⟨s, hs⟩ : ∃ s, l.getD i zs = s := ⟨_, rfl⟩
    obtain ⟨c, v⟩ := s
    have hrg := hg.1 i _ (getD_of hi)
    have hp := cnt_pos hi h0
    rw [hs] at hrg h0 hp
    simp only at h0 hp
    have hcv : c < cores ∧ 32 ≤ v ∧ v < 256 := by
      rcases hrg with e | e
      · rw [zs, SlotT.mk.injEq] at e
        omega
      · exact e
    obtain ⟨k1, k2, k3⟩ := ht c hcv.1
    obtain ⟨t, ht'⟩ : ∃ t, tk c = t + 1 := ⟨tk c - 1, by omega⟩
    have hle := cnt_le l c
    refine (remove_raw W T B cores i l fr tk w hr hi c v t (fr c) (by omega) (by omega) h0 k1 (by omega) hs rfl ht').mono ?_
    rintro e w' ⟨hz, R⟩
    exact ⟨hz, ⟨h8, by simpa using hl, good_drop hg hi⟩, _, _, R, tie_drop hg ht hi hs h0 rfl ht'⟩
  · have hz := slot_zero hg hi (by omega)
    rw [hz] at e0 e1
    refine (remove_no T B i _ w hi r.head.2 e0 e1).mono ?_
    rintro e w' ⟨hz', rfl⟩
    refine ⟨hz', ?_⟩
    rw [set_none hg hi (by omega)]
    exact r
theorem least_VS {W : Base} {w : World} {T B cores : Nat} {l : List SlotT} (r : VS W T B cores l w) (m p : Int) (hp : pickI (pick (cntV l) (allow m) cores) = p) :
    Calls Tryd.prog 19 #[.pointer (some ⟨T, 0, none⟩), .int .i64 m] w fun e w' => e = .returned (.int .i64 p) ∧ Below w.heap.size w w' := by
  obtain ⟨⟨h8, hl, _⟩, fr, tk, hr, ht⟩ := r
  refine least_raw T cores tk m p w h8 hr.2.2.2.1.lt hr.head.1 (fun c hc => hr.taken hc) ?_
  rw [← hp, pick_congr (n := tk) (n' := cntV l) (ok := allow m) (ok' := allow m) (fun c hc => ⟨(ht c hc).2.2, rfl⟩)]
  exact Lib.hid rfl
end Go.Proofs.YtmldedkmmhnihaaDoor
