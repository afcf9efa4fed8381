/- '==' on lines and on what is sent; slices.Equal of two slices of one list. -/
import Derived.Test.YtmldedkmmhnihaaPinC
namespace Go.Proofs.Ytmldedkmmhnihaa
open Go.RowKit

theorem eq_pin (c v : Int) (l m u k s : Bool) (w : World) : (Op.equalIn 10000 33 (.agg #[.int .i64 c, .int .i64 v, .bool l, .bool m, .bool u, .bool k, .bool s]) (.agg #[.int .i64 c, .int .i64 v, .bool l, .bool m, .bool u, .bool k, .bool s])).run Try.prog w = .ok true w := by
  have e : ∀ (x y : Int) (w : World), (Op.equalIn 9999 3 (.int .i64 x) (.int .i64 y)).run Try.prog w = .ok (x == y) w := fun x y w => run_equalIn_int w 9998 _ _ _ x y Try.underlying3
  have f : ∀ (x y : Bool) (w : World), (Op.equalIn 9999 4 (.bool x) (.bool y)).run Try.prog w = .ok (x == y) w := fun x y w => by rw [Op.equalIn]; simp [Sem.run_bind, run_underlying Try.underlying4]
  rw [Op.equalIn]
  simp only [Sem.run_bind, run_underlying Try.underlying33, Result.andThen_ok]
  have hs : Try.prog.stoodInHeld 33 = false := by kernel_rfl
  have p0 : ∀ w : World, (part 3 #[.int .i64 c, .int .i64 v, .bool l, .bool m, .bool u, .bool k, .bool s] 0).run Try.prog w = .ok (.int .i64 c) w := fun w => by simp [part, Try.isAgg3, Sem.run_bind]
  have p1 : ∀ w : World, (part 3 #[.int .i64 c, .int .i64 v, .bool l, .bool m, .bool u, .bool k, .bool s] 1).run Try.prog w = .ok (.int .i64 v) w := fun w => by simp [part, Try.isAgg3, Sem.run_bind]
  have p2 : ∀ w : World, (part 4 #[.int .i64 c, .int .i64 v, .bool l, .bool m, .bool u, .bool k, .bool s] 2).run Try.prog w = .ok (.bool l) w := fun w => by simp [part, Try.isAgg4, Sem.run_bind]
  have p3 : ∀ w : World, (part 4 #[.int .i64 c, .int .i64 v, .bool l, .bool m, .bool u, .bool k, .bool s] 3).run Try.prog w = .ok (.bool m) w := fun w => by simp [part, Try.isAgg4, Sem.run_bind]
  have p4 : ∀ w : World, (part 4 #[.int .i64 c, .int .i64 v, .bool l, .bool m, .bool u, .bool k, .bool s] 4).run Try.prog w = .ok (.bool u) w := fun w => by simp [part, Try.isAgg4, Sem.run_bind]
  have p5 : ∀ w : World, (part 4 #[.int .i64 c, .int .i64 v, .bool l, .bool m, .bool u, .bool k, .bool s] 5).run Try.prog w = .ok (.bool k) w := fun w => by simp [part, Try.isAgg4, Sem.run_bind]
  have p6 : ∀ w : World, (part 4 #[.int .i64 c, .int .i64 v, .bool l, .bool m, .bool u, .bool k, .bool s] 6).run Try.prog w = .ok (.bool s) w := fun w => by simp [part, Try.isAgg4, Sem.run_bind]
  simp [hs, Sem.run_bind, p0, p1, p2, p3, p4, p5, p6, e, f]
theorem eq_sent (p c v : Int) (w : World) : (Op.equalIn 10000 36 (.agg #[.int .i64 p, .int .i64 c, .int .i64 v]) (.agg #[.int .i64 p, .int .i64 c, .int .i64 v])).run Try.prog w = .ok true w := by
  have e : ∀ (x y : Int) (w : World), (Op.equalIn 9999 3 (.int .i64 x) (.int .i64 y)).run Try.prog w = .ok (x == y) w := fun x y w => run_equalIn_int w 9998 _ _ _ x y Try.underlying3
  have _ : ∀ (x y : Bool) (w : World), (Op.equalIn 9999 4 (.bool x) (.bool y)).run Try.prog w = .ok (x == y) w := fun x y w => by rw [Op.equalIn]; simp [Sem.run_bind, run_underlying Try.underlying4]
  rw [Op.equalIn]
  simp only [Sem.run_bind, run_underlying Try.underlying36, Result.andThen_ok]
  have hs : Try.prog.stoodInHeld 36 = false := by kernel_rfl
  have p0 : ∀ w : World, (part 3 #[.int .i64 p, .int .i64 c, .int .i64 v] 0).run Try.prog w = .ok (.int .i64 p) w := fun w => by simp [part, Try.isAgg3, Sem.run_bind]
  have p1 : ∀ w : World, (part 3 #[.int .i64 p, .int .i64 c, .int .i64 v] 1).run Try.prog w = .ok (.int .i64 c) w := fun w => by simp [part, Try.isAgg3, Sem.run_bind]
  have p2 : ∀ w : World, (part 3 #[.int .i64 p, .int .i64 c, .int .i64 v] 2).run Try.prog w = .ok (.int .i64 v) w := fun w => by simp [part, Try.isAgg3, Sem.run_bind]
  simp [hs, Sem.run_bind, p0, p1, p2, e]
set_option maxHeartbeats 4000000 in
set_option maxRecDepth 100000 in
theorem equal_pins (b off c b2 off2 c2 : Nat) (l : List PinT) (w : World) (hbig : l.length ≤ 9223372036854775807) (H1 : Hid (LiesP w b off l)) (H2 : Hid (LiesP w b2 off2 l)) (hb : 0 < l.length → b < w.heap.size ∧ b2 < w.heap.size) :
    Calls Try.prog 10 #[.slice (some ⟨b, off, none⟩) l.length c, .slice (some ⟨b2, off2, none⟩) l.length c2] w fun e w' => e = .returned (.bool true) ∧ Below w.heap.size w w' := by
  have heq : ∀ (c v : Int) (l m u k s : Bool) (w : World), (Op.equalIn 10000 33 (.agg #[.int .i64 c, .int .i64 v, .bool l, .bool m, .bool u, .bool k, .bool s]) (.agg #[.int .i64 c, .int .i64 v, .bool l, .bool m, .bool u, .bool k, .bool s])).run Try.prog w = .ok true w := eq_pin
  go_enter Try.func10, Try.ntmps10
  go_wp2_with fail
  go_loopw [13] (fun i wr => ∃ j : Nat, j ≤ l.length ∧ i = .int .i64 j ∧ Below w.heap.size w wr) (fun i _ => l.length - (intOf i).toNat)
  case atStart => exact ⟨0, Nat.zero_le _, rfl, Below.refl _ _⟩
  case round =>
    obtain ⟨j, hj, rfl, BB⟩ := hrel
    by_cases hlt : j < l.length
    · obtain ⟨hb1, hb2⟩ := hb (by omega)
      obtain ⟨p, hp⟩ : ∃ p, l.getD j pin0 = p := ⟨_, rfl⟩
      obtain ⟨a0, a1, a2, a3, a4, a5, a6⟩ := (H1.out.step BB hb1).at j hlt p hp
      obtain ⟨b0, b1, b2, b3, b4, b5, b6⟩ := (H2.out.step BB hb2).at j hlt p hp
      clear hp
      go_upto_region 6 with fail
      go_region
      all_goals go_wp2_with fail
      all_goals go_roundw
      all_goals first
        | exact ⟨j + 1, by omega, by go_num, by repeat (first | (with_reducible assumption) | (with_reducible refine Below.drew ?_))⟩
        | (simp [intOf]; omega)
    · have hjl : j = l.length := by omega
      subst hjl
      clear hlt
      go_wp2_with fail
      go_ret
      exact ⟨rfl, BB⟩
/-- What was sent as cells. -/
def LiesS (w : World) (b off : Nat) (l : List SentT) : Prop := ∀ j, j < l.length → w.cell? ⟨b, off + j * 3, none⟩ = some (.int .i64 (l.getD j ⟨0, 0, 0⟩).pin) ∧ w.cell? ⟨b, off + j * 3 + 1, none⟩ = some (.int .i64 (l.getD j ⟨0, 0, 0⟩).core) ∧ w.cell? ⟨b, off + j * 3 + 2, none⟩ = some (.int .i64 (l.getD j ⟨0, 0, 0⟩).vec)
theorem LiesS.step {w w' : World} {b off M : Nat} {l : List SentT} (h : LiesS w b off l) (hb : Below M w w') (hM : b < M) : LiesS w' b off l := fun j hj =>
  ⟨(hb.cell (p := ⟨b, off + j * 3, none⟩) hM).trans (h j hj).1, (hb.cell (p := ⟨b, off + j * 3 + 1, none⟩) hM).trans (h j hj).2.1, (hb.cell (p := ⟨b, off + j * 3 + 2, none⟩) hM).trans (h j hj).2.2⟩
theorem LiesS.at {w : World} {b off : Nat} {l : List SentT} (h : LiesS w b off l) (j : Nat) (hj : j < l.length) (p : SentT) (hp : l.getD j ⟨0, 0, 0⟩ = p) :
    w.cell? ⟨b, off + j * 3, none⟩ = some (.int .i64 p.pin) ∧ w.cell? ⟨b, off + j * 3 + 1, none⟩ = some (.int .i64 p.core) ∧ w.cell? ⟨b, off + j * 3 + 2, none⟩ = some (.int .i64 p.vec) := by
  subst hp
  exact h j hj
set_option maxHeartbeats 4000000 in
set_option maxRecDepth 100000 in
theorem equal_sents (b off c b2 off2 c2 : Nat) (l : List SentT) (w : World) (hbig : l.length ≤ 9223372036854775807) (H1 : Hid (LiesS w b off l)) (H2 : Hid (LiesS w b2 off2 l)) (hb : 0 < l.length → b < w.heap.size ∧ b2 < w.heap.size) :
    Calls Try.prog 11 #[.slice (some ⟨b, off, none⟩) l.length c, .slice (some ⟨b2, off2, none⟩) l.length c2] w fun e w' => e = .returned (.bool true) ∧ Below w.heap.size w w' := by
  have heq : ∀ (p c v : Int) (w : World), (Op.equalIn 10000 36 (.agg #[.int .i64 p, .int .i64 c, .int .i64 v]) (.agg #[.int .i64 p, .int .i64 c, .int .i64 v])).run Try.prog w = .ok true w := eq_sent
  go_enter Try.func11, Try.ntmps11
  go_wp2_with fail
  go_loopw [13] (fun i wr => ∃ j : Nat, j ≤ l.length ∧ i = .int .i64 j ∧ Below w.heap.size w wr) (fun i _ => l.length - (intOf i).toNat)
  case atStart => exact ⟨0, Nat.zero_le _, rfl, Below.refl _ _⟩
  case round =>
    obtain ⟨j, hj, rfl, BB⟩ := hrel
    by_cases hlt : j < l.length
    · obtain ⟨hb1, hb2⟩ := hb (by omega)
      obtain ⟨p, hp⟩ : ∃ p, l.getD j ⟨0, 0, 0⟩ = p := ⟨_, rfl⟩
      obtain ⟨a0, a1, a2⟩ := (H1.out.step BB hb1).at j hlt p hp
      obtain ⟨b0, b1, b2⟩ := (H2.out.step BB hb2).at j hlt p hp
      clear hp
      go_upto_region 6 with fail
      go_region
      all_goals go_wp2_with fail
      all_goals go_roundw
      all_goals first
        | exact ⟨j + 1, by omega, by go_num, by repeat (first | (with_reducible assumption) | (with_reducible refine Below.drew ?_))⟩
        | (simp [intOf]; omega)
    · have hjl : j = l.length := by omega
      subst hjl
      clear hlt
      go_wp2_with fail
      go_ret
      exact ⟨rfl, BB⟩
theorem equal_pins_none (a1 a2 : Option Addr) (c c2 : Nat) (w : World) :
    Calls Try.prog 10 #[.slice a1 0 c, .slice a2 0 c2] w fun e w' => e = .returned (.bool true) ∧ Below w.heap.size w w' := by
  go_enter Try.func10, Try.ntmps10
  go_wp2_with fail
  refine wp_loop_rounds 1 ?_
  rw [rounds_succ]
  go_wp2_with fail
  go_ret
  exact ⟨rfl, Below.refl _ _⟩
theorem equal_sents_none (a1 a2 : Option Addr) (c c2 : Nat) (w : World) :
    Calls Try.prog 11 #[.slice a1 0 c, .slice a2 0 c2] w fun e w' => e = .returned (.bool true) ∧ Below w.heap.size w w' := by
  go_enter Try.func11, Try.ntmps11
  go_wp2_with fail
  refine wp_loop_rounds 1 ?_
  rw [rounds_succ]
  go_wp2_with fail
  go_ret
  exact ⟨rfl, Below.refl _ _⟩
end Go.Proofs.Ytmldedkmmhnihaa
