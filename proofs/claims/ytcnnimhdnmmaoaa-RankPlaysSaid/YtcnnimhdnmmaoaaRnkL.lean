/- corebellref.HPlay$1: one operation. -/
import Derived.Test.YtcnnimhdnmmaoaaRnkK
import Derived.WalkSmall
namespace Go.Proofs.Ytcnnimhdnmmaoaa
open Go.RowKit Go.Maps

section
variable {w w0 : World} {bt bl br m1 m2 h1 h2 n K m : Nat} {rk : Bool} {s : RkT}
/-- What an operation leaves. -/
def OneP (w0 w : World) (bt bl br m1 m2 h1 h2 n K : Nat) (rk : Bool) (m : Nat) (s' : RkT) (x : Int) (e : Ending) (w' : World) : Prop := e = .returned (.int .i64 x) ∧ Mp w' bt bl br m1 m2 h1 h2 n K rk (m + 1) s' ∧ Turned w0 w w' m1 m2
theorem one_at' {w : World} {b : Nat} {x : Value} {t : TypeId} {fr : Nat × Nat} (h : w.heap[b]? = some (.cells #[x] t fr)) : w.cell? ⟨b, 0, none⟩ = some x ∧ b < w.heap.size := ⟨one_at h, heap_lt h⟩
set_option maxHeartbeats 2000000 in
set_option maxRecDepth 100000 in
theorem one_kind (HM : Hid (Mp w bt bl br m1 m2 h1 h2 n K rk m s)) (HB : Hid (Below w0.heap.size w0 w)) (kind th lk : Int) (k1 : ¬ kind = 1) (k2 : ¬ kind = 2) :
    Calls Try.prog 21 #[.agg #[.int .i64 kind, .int .i64 th, .int .i64 lk], .pointer (some ⟨bt, 0, none⟩), .pointer (some ⟨bl, 0, none⟩), .pointer (some ⟨h1, 0, none⟩), .pointer (some ⟨h2, 0, none⟩), .pointer (some ⟨br, 0, none⟩)] w fun e w' => OneP w0 w bt bl br m1 m2 h1 h2 n K rk m s 5 e w' := by
  have B0 := below_alloc w (.cells #[.int .i64 kind, .int .i64 th, .int .i64 lk] 35)
  have T0 := Lib.hid ((turned_refl (H := m1) (T := m2) HB.out).step B0)
  have M0 := Lib.hid (HM.out.step B0)
  obtain ⟨ct, lt⟩ := one_at' HM.out.t
  obtain ⟨cl, ll⟩ := one_at' HM.out.l
  obtain ⟨cr, lr⟩ := one_at' HM.out.r
  obtain ⟨ch, lh⟩ := one_at' HM.out.bh
  obtain ⟨cw, lw⟩ := one_at' HM.out.bw
  clear B0
  have q1 : (kind != 1) = true := by simpa using k1
  have q2 : (kind != 2) = true := by simpa using k2
  go_enter Try.func21, Try.ntmps21
  go_wp2_with fail
  go_ret
  exact ⟨rfl, M0.out.more (Nat.le_succ _), T0.out⟩
set_option maxHeartbeats 2000000 in
set_option maxRecDepth 100000 in
theorem one_range (HM : Hid (Mp w bt bl br m1 m2 h1 h2 n K rk m s)) (HB : Hid (Below w0.heap.size w0 w)) (kind th lk : Int) (hk : kind = 1 ∨ kind = 2) (hr : th < 0 ∨ (n : Int) ≤ th ∨ lk < 0 ∨ (K : Int) ≤ lk) :
    Calls Try.prog 21 #[.agg #[.int .i64 kind, .int .i64 th, .int .i64 lk], .pointer (some ⟨bt, 0, none⟩), .pointer (some ⟨bl, 0, none⟩), .pointer (some ⟨h1, 0, none⟩), .pointer (some ⟨h2, 0, none⟩), .pointer (some ⟨br, 0, none⟩)] w fun e w' => OneP w0 w bt bl br m1 m2 h1 h2 n K rk m s 2 e w' := by
  have B0 := below_alloc w (.cells #[.int .i64 kind, .int .i64 th, .int .i64 lk] 35)
  have T0 := Lib.hid ((turned_refl (H := m1) (T := m2) HB.out).step B0)
  have M0 := Lib.hid (HM.out.step B0)
  obtain ⟨ct, lt⟩ := one_at' HM.out.t
  obtain ⟨cl, ll⟩ := one_at' HM.out.l
  obtain ⟨cr, lr⟩ := one_at' HM.out.r
  obtain ⟨ch, lh⟩ := one_at' HM.out.bh
  obtain ⟨cw, lw⟩ := one_at' HM.out.bw
  clear B0
  by_cases r1 : th < 0
  · rcases hk with rfl | rfl
    all_goals go_enter Try.func21, Try.ntmps21
    all_goals go_wp2_with fail
    all_goals go_ret
    all_goals exact ⟨rfl, M0.out.more (Nat.le_succ _), T0.out⟩
  by_cases r2 : (n : Int) ≤ th
  · rcases hk with rfl | rfl
    all_goals go_enter Try.func21, Try.ntmps21
    all_goals go_wp2_with fail
    all_goals go_ret
    all_goals exact ⟨rfl, M0.out.more (Nat.le_succ _), T0.out⟩
  by_cases r3 : lk < 0
  · rcases hk with rfl | rfl
    all_goals go_enter Try.func21, Try.ntmps21
    all_goals go_wp2_with fail
    all_goals go_ret
    all_goals exact ⟨rfl, M0.out.more (Nat.le_succ _), T0.out⟩
  · have r4 : (K : Int) ≤ lk := by omega
    rcases hk with rfl | rfl
    all_goals go_enter Try.func21, Try.ntmps21
    all_goals go_wp2_with fail
    all_goals go_ret
    all_goals exact ⟨rfl, M0.out.more (Nat.le_succ _), T0.out⟩
end
end Go.Proofs.Ytcnnimhdnmmaoaa
