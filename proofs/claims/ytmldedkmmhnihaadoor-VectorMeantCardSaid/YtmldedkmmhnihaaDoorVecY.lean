/- The walk of vector's perform: it makes of the slots what the plain step says. -/
import Derived.Test.YtmldedkmmhnihaaDoorVecX
import Derived.StillTailTactics
namespace Go.Proofs.YtmldedkmmhnihaaDoor
open Go.RowKit

theorem assign_VS {W : Base} {w : World} {T B cores : Nat} {l : List SlotT} (hT : Hid (Tab W.w)) (r : VS W T B cores l w) (i : Nat) (hi : i < l.length) (m : Int) (hm : Hid (0 < (l.getD i zs).vec → allow m (l.getD i zs).core = false)) (l2 : List SlotT) (e2 : Int)
    (h : Hid ((match pick (cntV l) (allow m) cores with | none => (l, (4 : Int)) | some c => (l.set i ⟨c, (vecV l c).toNat⟩, 0)) = (l2, e2))) :
    Calls Tryd.prog 14 #[.pointer (some ⟨T, 0, none⟩), .int .i64 i, .int .i64 m] w fun e w' => e = .returned (.int .i64 e2) ∧ VS W T B cores l2 w' := by
  have h := h.out
  cases hp : pick (cntV l) (allow m) cores with
  | none =>
    rw [hp] at h
    simp only [Prod.mk.injEq] at h
    obtain ⟨rfl, rfl⟩ := h
    exact assign_none r i m hp
  | some c =>
    rw [hp] at h
    simp only [Prod.mk.injEq] at h
    obtain ⟨rfl, rfl⟩ := h
    obtain ⟨p1, p2, p3, _⟩ := pick_some hp
    have hc : 0 < (l.getD i zs).vec → ¬ c = (l.getD i zs).core := by
      intro h0 e
      have := hm.out h0
      rw [← e, p2] at this
      cases this
    obtain ⟨o1, o2⟩ := vec_other r.1.2.2 hi hc
    obtain ⟨v, ev, _⟩ := vec_ok p3
    have hv : vecV (l.set i zs) c = v := by
      unfold vecV at ev ⊢
      rw [nextOf_congr o1]
      exact ev
    rw [ev, Int.toNat_natCast, ← set_twice]
    exact assign_some hT r i hi m c v hp (Lib.hid rfl) (Lib.hid hv) (Lib.hid (by rw [o2]; exact p3))
set_option maxHeartbeats 1000000 in
set_option maxRecDepth 100000 in
theorem perf_err {W : Base} {w : World} {T B cores : Nat} {l : List SlotT} (r : VS W T B cores l w) (K L M c : Int) (HC : Hid (errV l ⟨K, L, M⟩ = c)) (hc0 : ¬ c = 0) :
    Calls Tryd.prog 11 #[.pointer (some ⟨T, 0, none⟩), .agg #[.int .i64 K, .int .i64 L, .int .i64 M]] w fun e w' => e = .returned (.int .i64 c) ∧ VS W T B cores l w' := by
  have R0 := r.alloc (.cells #[.int .i64 K, .int .i64 L, .int .i64 M] 24)
  go_enter Tryd.func11, Tryd.ntmps11
  go_wp2_with (first
    | (go_at_call 13; (with_reducible refine (check_VS R0 K L M c HC).mono ?_); rintro e w1 ⟨rfl, hb1⟩; have R1 := R0.step hb1; clear hb1)
    | fail)
  go_ret
  exact ⟨rfl, R1⟩
set_option maxHeartbeats 1000000 in
set_option maxRecDepth 100000 in
theorem perf_take {W : Base} {w : World} {T B cores : Nat} {l : List SlotT} (hT : Hid (Tab W.w)) (r : VS W T B cores l w) (i : Nat) (hi : i < l.length) (M : Int) (HC : Hid (errV l ⟨1, i, M⟩ = 0)) (hm : Hid (0 < (l.getD i zs).vec → allow M (l.getD i zs).core = false)) (l2 : List SlotT) (e2 : Int)
    (h : Hid ((match pick (cntV l) (allow M) cores with | none => (l, (4 : Int)) | some c => (l.set i ⟨c, (vecV l c).toNat⟩, 0)) = (l2, e2))) :
    Calls Tryd.prog 11 #[.pointer (some ⟨T, 0, none⟩), .agg #[.int .i64 1, .int .i64 i, .int .i64 M]] w fun e w' => e = .returned (.int .i64 e2) ∧ VS W T B cores l2 w' := by
  have R0 := r.alloc (.cells #[.int .i64 1, .int .i64 i, .int .i64 M] 24)
  go_enter Tryd.func11, Tryd.ntmps11
  go_wp2_with (first
    | (go_at_call 13; (with_reducible refine (check_VS R0 1 i M 0 HC).mono ?_); rintro e w1 ⟨rfl, hb1⟩; have R1 := R0.step hb1; have G1 := bat' hb1 w.heap.size (by simp); clear hb1)
    | (go_at_call 14; (with_reducible refine (assign_VS hT R1 i hi M hm l2 e2 h).mono ?_); rintro e w2 ⟨rfl, R2⟩)
    | fail)
  go_ret
  exact ⟨rfl, R2⟩
set_option maxHeartbeats 1000000 in
set_option maxRecDepth 100000 in
theorem perf_give {W : Base} {w : World} {T B cores : Nat} {l : List SlotT} (r : VS W T B cores l w) (i : Nat) (hi : i < l.length) (M : Int) (HC : Hid (errV l ⟨2, i, M⟩ = 0)) :
    Calls Tryd.prog 11 #[.pointer (some ⟨T, 0, none⟩), .agg #[.int .i64 2, .int .i64 i, .int .i64 M]] w fun e w' => e = .returned (.int .i64 0) ∧ VS W T B cores (l.set i zs) w' := by
  have R0 := r.alloc (.cells #[.int .i64 2, .int .i64 i, .int .i64 M] 24)
  go_enter Tryd.func11, Tryd.ntmps11
  go_wp2_with (first
    | (go_at_call 13; (with_reducible refine (check_VS R0 2 i M 0 HC).mono ?_); rintro e w1 ⟨rfl, hb1⟩; have R1 := R0.step hb1; have G1 := bat' hb1 w.heap.size (by simp); clear hb1)
    | (go_at_call 16; (with_reducible refine (remove_VS R1 i hi).mono ?_); rintro e w2 ⟨⟨z, rfl⟩, R2⟩)
    | fail)
  go_ret
  exact ⟨rfl, R2⟩
set_option maxHeartbeats 1000000 in
set_option maxRecDepth 100000 in
theorem perf_move {W : Base} {w : World} {T B cores : Nat} {l : List SlotT} (hT : Hid (Tab W.w)) (r : VS W T B cores l w) (i : Nat) (hi : i < l.length) (M m b : Int) (c : Nat) (hc8 : c < 8) (HB : Hid (((2 ^ c : Nat) : Int) = b)) (hcc : (l.getD i zs).core = c) (HC : Hid (errV l ⟨3, i, M⟩ = 0)) (hM : Go.bits BinOp.andNot IntKind.i64 M b = m) (hm : Hid (0 < (l.getD i zs).vec → allow m (l.getD i zs).core = false)) (l2 : List SlotT) (e2 : Int)
    (h : Hid ((match pick (cntV l) (allow m) cores with | none => (l, (4 : Int)) | some c => (l.set i ⟨c, (vecV l c).toNat⟩, 0)) = (l2, e2))) :
    Calls Tryd.prog 11 #[.pointer (some ⟨T, 0, none⟩), .agg #[.int .i64 3, .int .i64 i, .int .i64 M]] w fun e w' => e = .returned (.int .i64 e2) ∧ VS W T B cores l2 w' := by
  have R0 := r.alloc (.cells #[.int .i64 3, .int .i64 i, .int .i64 M] 24)
  go_enter Tryd.func11, Tryd.ntmps11
  go_wp2_with (first
    | (go_at_call 13; (with_reducible refine (check_VS R0 3 i M 0 HC).mono ?_); rintro e w1 ⟨rfl, hb1⟩; have R1 := R0.step hb1; have G1 := bat' hb1 w.heap.size (by simp); have eS := (R1.slot hi).1; rw [hcc] at eS; have eT := R1.head.2; clear hb1)
    | fail)
  go_still_tail 16, (by kernel_rfl)
  still_call ((bitV c b _ hc8 HB).mono (fun _ _ h => ⟨h.1, h.2.symm⟩))
  repeat still_step
  refine wpStill_nil ?_
  have R2 := R1.drew
  change wpList _ _ _ _ _ w1.drew
  clear G1 eS eT R1
  generalize w1.drew = w2 at R2 ⊢
  go_wp2_with (first
    | (go_at_call 14; (with_reducible refine (assign_VS hT R2 i hi m hm l2 e2 h).mono ?_); rintro e w3 ⟨rfl, R3⟩)
    | fail)
  go_ret
  exact ⟨rfl, R3⟩
/-- vector's perform. -/
theorem perform_VS {W : Base} {w : World} {T B cores : Nat} {l : List SlotT} (hT : Hid (Tab W.w)) (r : VS W T B cores l w) (K L M : Int) (l2 : List SlotT) (e2 : Int) (h : Hid (stepV cores l ⟨K, L, M⟩ = (l2, e2))) :
    Calls Tryd.prog 11 #[.pointer (some ⟨T, 0, none⟩), .agg #[.int .i64 K, .int .i64 L, .int .i64 M]] w fun e w' => e = .returned (.int .i64 e2) ∧ VS W T B cores l2 w' := by
  have h := h.out
  unfold stepV at h
  by_cases he : errV l ⟨K, L, M⟩ = 0
  · rw [if_neg (by simpa using he)] at h
    obtain ⟨⟨g1, g2⟩, ⟨g3, g4⟩, g5⟩ := errV_zero.1 he
    simp only at g1 g2 g3 g4 g5 h
    obtain ⟨i, rfl⟩ : ∃ i : Nat, L = i := ⟨L.toNat, by omega⟩
    rw [Int.toNat_natCast] at h g5
    have hi : i < l.length := by omega
    have h3 : K = 1 ∨ K = 2 ∨ K = 3 := by omega
    rcases h3 with rfl | rfl | rfl
    · rw [if_neg (by decide)] at h
      have hz : (l.getD i zs).vec = 0 := g5.1 rfl
      refine perf_take hT r i hi M (Lib.hid he) (Lib.hid fun h0 => by omega) l2 e2 (Lib.hid ?_)
      rw [← h, pick_congr (n := cntV l) (n' := cntV l) (ok := okV l ⟨1, i, M⟩) (ok' := allow M) (fun c _ => ⟨rfl, by simp [okV]⟩)]
      cases pick (cntV l) (allow M) cores <;> rfl
    · rw [if_pos rfl] at h
      simp only [Prod.mk.injEq] at h
      obtain ⟨rfl, rfl⟩ := h
      exact perf_give r i hi M (Lib.hid he)
    · rw [if_neg (by decide)] at h
      have h0 : 0 < (l.getD i zs).vec := by
        have : ¬ (l.getD i zs).vec = 0 := fun e => by have := g5.2 e; omega
        omega
      have hc8 : (l.getD i zs).core < 8 := by
        have h8 := r.1.1
        rcases r.1.2.2.1 i _ (getD_of hi) with e | e
        · rw [e]; decide
        · omega
      have hal := fun c hc => andNot_allow M _ hc8 _ rfl c hc
      refine perf_move hT r i hi M _ _ (l.getD i zs).core hc8 (Lib.hid rfl) rfl (Lib.hid he) rfl (Lib.hid fun _ => by rw [hal _ hc8]; simp) l2 e2 (Lib.hid ?_)
      rw [← h, pick_congr (n := cntV l) (n' := cntV l) (ok := okV l ⟨3, i, M⟩) (ok' := allow (Go.bits BinOp.andNot IntKind.i64 M ((2 ^ (l.getD i zs).core : Nat) : Int))) (fun c hc => ⟨rfl, by rw [hal c (by have := r.1.1; omega)]; simp [okV]⟩)]
      cases pick (cntV l) (allow (Go.bits BinOp.andNot IntKind.i64 M ((2 ^ (l.getD i zs).core : Nat) : Int))) cores <;> rfl
  · rw [if_pos (by simpa using he)] at h
    simp only [Prod.mk.injEq] at h
    obtain ⟨rfl, rfl⟩ := h
    exact perf_err r K L M _ (Lib.hid rfl) he
end Go.Proofs.YtmldedkmmhnihaaDoor
