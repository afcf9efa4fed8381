/- The walk of vector's remove. -/
import Derived.Test.YtmldedkmmhnihaaDoorVecS
namespace Go.Proofs.YtmldedkmmhnihaaDoor
open Go.RowKit

set_option maxHeartbeats 2000000 in
set_option maxRecDepth 100000 in
theorem remove_raw (W : Base) (T B cores i : Nat) (l : List SlotT) (fr : Nat → Q4) (tk : Nat → Nat) (w : World) (r : RawV W T B cores l fr tk w) (hi : i < l.length) (c v t : Nat) (q : Q4) (hc : c < 8) (hv : v < 256) (hv0 : 0 < v) (hok : Ok q.a q.b q.c q.d) (ht0 : t < 9223372036854775807) (hs : l.getD i zs = ⟨c, v⟩) (hq : Hid (fr c = q)) (ht : Hid (tk c = t + 1)) :
    Calls Tryd.prog 16 #[.pointer (some ⟨T, 0, none⟩), .int .i64 i] w fun e w' => (∃ z, e = .returned z) ∧ RawV W T B cores (l.set i zs) (fun d => if d = c then ⟨up 0 v q.a, up 1 v q.b, up 2 v q.c, up 3 v q.d⟩ else fr d) (fun d => if d = c then t else tk d) w' := by
  obtain ⟨e0, e1⟩ := r.slot hi
  rw [hs] at e0 e1
  obtain ⟨eT0, eT1⟩ := r.head
  have fB0 := r.frozenB (i * 2)
  have fB1 := r.frozenB (i * 2 + 1)
  have hB := r.2.2.1.lt
  have hT := r.2.2.2.1.lt
  have hWT := r.2.1.1
  have hWB := r.2.1.2.1
  have hTB := r.2.1.2.2
  go_enter Tryd.func16, Tryd.ntmps16
  go_upto_region 3 with (first
    | (go_at_call 18; (with_reducible refine (has_yes T B i l.length c v _ hi hv0 eT1 e0 e1).mono ?_); rintro e w2 ⟨rfl, rfl⟩)
    | fail)
  have R1 : RawV W T B cores (l.set i zs) fr tk (((w.setCell ⟨B, i * 2, none⟩ (.int .i64 0)).setCell ⟨B, i * 2 + 1, none⟩ (.int .i64 0)).alloc (.cells #[.int .i64 (c : Int), .int .i64 (v : Int)] 34)) := (r.putS hi zs).alloc _
  have L1 : w.heap.size < (((w.setCell ⟨B, i * 2, none⟩ (.int .i64 0)).setCell ⟨B, i * 2 + 1, none⟩ (.int .i64 0)).alloc (.cells #[.int .i64 (c : Int), .int .i64 (v : Int)] 34)).heap.size ∧
      (((w.setCell ⟨B, i * 2, none⟩ (.int .i64 0)).setCell ⟨B, i * 2 + 1, none⟩ (.int .i64 0)).alloc (.cells #[.int .i64 (c : Int), .int .i64 (v : Int)] 34)).cell? ⟨w.heap.size, 0, none⟩ = some (.int .i64 (c : Int)) ∧
      (((w.setCell ⟨B, i * 2, none⟩ (.int .i64 0)).setCell ⟨B, i * 2 + 1, none⟩ (.int .i64 0)).alloc (.cells #[.int .i64 (c : Int), .int .i64 (v : Int)] 34)).cell? ⟨w.heap.size, 1, none⟩ = some (.int .i64 (v : Int)) := by
    refine ⟨by simp, ?_, ?_⟩ <;> go_simp
  generalize (((w.setCell ⟨B, i * 2, none⟩ (.int .i64 0)).setCell ⟨B, i * 2 + 1, none⟩ (.int .i64 0)).alloc (.cells #[.int .i64 (c : Int), .int .i64 (v : Int)] 34)) = wx at R1 L1 ⊢
  obtain ⟨hL, hL0, hL1⟩ := L1
  have hTL : ¬ T = w.heap.size := by omega
  clear e0 e1 eT0 eT1 fB0 fB1 hB
  obtain ⟨f0, f1, f2, f3⟩ := R1.free hc
  rw [hq.out] at f0 f1 f2 f3
  have hT' := R1.2.2.2.1.lt
  have fT := R1.frozenT
  go_cut [] from 39 (fun wy => RawV W T B cores (l.set i zs) (fun d => if d = c then ⟨up 0 v q.a, up 1 v q.b, up 2 v q.c, up 3 v q.d⟩ else fr d) tk wy ∧ wy.cell? ⟨w.heap.size, 0, none⟩ = some (.int .i64 (c : Int)))
  case first =>
    go_region_with (first
      | (go_at_call 17; ((with_reducible refine (with_any q.a q.b q.c q.d v _ hok hv).mono ?_); rintro e w2 ⟨rfl, hb2⟩; have G2 := bat' hb2 w.heap.size (by first | omega | (simp; done) | (simp; omega)); have G3 := bat' hb2 T (by first | omega | (simp; done) | (simp; omega)); have R2 := R1.drew.step hb2; clear hb2)))
    all_goals go_wp2_with fail
    all_goals go_meet
    all_goals refine ⟨?_, ?_⟩
    all_goals first | (with_reducible exact R2.putF hc ⟨_, _, _, _⟩) | (exact R2.putF hc ⟨_, _, _, _⟩) | go_simp
  case rest =>
    obtain ⟨R3, h0⟩ := hcut
    have h1 := R3.taken hc
    rw [ht.out] at h1
    have hT3 := R3.2.2.2.1.lt
    have fT3 := R3.frozenT (34 + c)
    have R4 := Lib.hid ((R3.drew).putT hc t)
    have R5 := Lib.hid (R3.putT hc t).drew
    clear R3 R1 r f0 f1 f2 f3 fT hL0 hL1
    go_wp2_with fail
    go_region
    all_goals go_wp2_with fail
    all_goals refine bodyPost_end (v := .tuple #[]) (by simp [results, Tryd.results16, go_sem]) rfl ?_
    all_goals exact ⟨⟨_, rfl⟩, by first | (with_reducible exact R5.out) | (with_reducible exact R4.out)⟩
end Go.Proofs.YtmldedkmmhnihaaDoor
