/- Package wheel: the walk of perform. -/
import Derived.Test.YtnnphmpodcmmoaaWhlF
namespace Go.Proofs.Ytnnphmpodcmmoaa
open Go.RowKit Go.Maps

section
variable {w0 w : World} {B m L K : Nat} {s : StT}
/-- What perform leaves. -/
def PerOut (w0 w : World) (B m L : Nat) (s : StT) (e : Ending) (w' : World) : Prop := e = .returned (.tuple #[]) ∧ WhS w0 w' B m L s ∧ KeepT w w'
theorem whs_read (h : WhS w0 w B m L s) : w.cell? ⟨B, 0, none⟩ = some (.int .i64 (s.now : Int)) ∧ B < w.heap.size := by
  obtain ⟨R, h⟩ := h
  exact ⟨h.cell h.c0, h.lt⟩
/-- What a drawn statement reads: the clock and the operation's box. -/
structure Pr (B bx now : Nat) (i n : Int) (wx : World) : Prop where
  c : wx.cell? ⟨B, 0, none⟩ = some (.int .i64 (now : Int))
  h : B < wx.heap.size
  b : wx.heap[bx]? = some (.cells #[.int .i64 1, .int .i64 i, .int .i64 n] 36 (0, 0))
theorem Pr.all {B bx now : Nat} {i n : Int} {wx : World} (h : Pr B bx now i n wx) : Pr B bx now i n wx ∧ wx.cell? ⟨B, 0, none⟩ = some (.int .i64 (now : Int)) ∧ B < wx.heap.size ∧ wx.cell? ⟨bx, 0, none⟩ = some (.int .i64 1) ∧ wx.cell? ⟨bx, 1, none⟩ = some (.int .i64 i) ∧ wx.cell? ⟨bx, 2, none⟩ = some (.int .i64 n) := ⟨h, h.c, h.h, trio_at h.b⟩
theorem Pr.drew {B bx now : Nat} {i n : Int} {wx : World} (h : Pr B bx now i n wx) : Pr B bx now i n wx.drew := ⟨h.c, h.h, h.b⟩
set_option maxHeartbeats 2000000 in
set_option maxRecDepth 100000 in
theorem per_add (H : Hid (WhS w0 w B m L s)) (hg : Hid (GoodT s)) (hb : Hid (BndT s K)) (hK : K ≤ 400) (hL : L ≤ 400) (i : Int) (n : Nat) (hw : WfI i) (h1 : 1 ≤ n) (h2 : n ≤ 511) (hq : setQ s.set i = false) :
    Calls Try.prog 18 #[.pointer (some ⟨B, 0, none⟩), .agg #[.int .i64 1, .int .i64 i, .int .i64 (n : Int)]] w (PerOut w0 w B m (L + 1) (addT s i n)) := by
  have BA := (below_alloc w (.cells #[.int .i64 1, .int .i64 i, .int .i64 (n : Int)] 36))
  have BD := BA.drew
  have HA := H.out.step BA
  have HD := Lib.hid (H.out.step BD)
  obtain ⟨c0, hB⟩ := whs_read HA
  obtain ⟨t0, t1, t2⟩ := trio_at (heap_alloc_new w (.cells #[.int .i64 1, .int .i64 i, .int .i64 (n : Int)] 36))
  have hnow := hb.out.now
  have HX : Hid ((s.now : Int) + (n : Int) = ((s.now + n : Nat) : Int)) := Lib.hid (by omega)
  have hwr : IntKind.i64.wrap ((s.now : Int) + (n : Int)) = (s.now : Int) + (n : Int) := by rw [IntKind.wrap_i64]; omega
  have HQ := Lib.hid hq
  have KA := Lib.hid (keep_below BD)
  have P0 : Pr B w.heap.size s.now i (n : Int) (w.alloc (.cells #[.int .i64 1, .int .i64 i, .int .i64 (n : Int)] 36)) := ⟨c0, hB, heap_alloc_new w _⟩
  have P1 := P0.drew
  clear BA BD HA hq
  go_enter Try.func18, Try.ntmps18
  go_upto_region 3 with fail
  go_region_held3 (fun w' => Pr B w.heap.size s.now i (n : Int) w' ∧ w'.cell? ⟨B, 0, none⟩ = some (.int .i64 (s.now : Int)) ∧ B < w'.heap.size ∧ w'.cell? ⟨w.heap.size, 0, none⟩ = some (.int .i64 1) ∧ w'.cell? ⟨w.heap.size, 1, none⟩ = some (.int .i64 i) ∧ w'.cell? ⟨w.heap.size, 2, none⟩ = some (.int .i64 (n : Int)))
    (first | (refine Pr.all ?_; with_reducible assumption))
    (first
    | (go_at_call 25; (with_reducible refine (add_S HD hg hb hK hL i _ n hw h1 h2 HX.out HQ.out).mono ?_); rintro e w4 ⟨rfl, h4, k4⟩; have TT : Pr B w.heap.size s.now i (n : Int) w4 := ⟨(whs_read h4).1, (whs_read h4).2, k4.at_ _ _ _ _ P1.b (by decide) (by decide) (by decide)⟩; have H4 := Lib.hid h4; have K4 := Lib.hid (KA.out.trans k4); clear h4 k4)
    | fail)
  all_goals go_wp2_with fail
  all_goals go_end0
  all_goals exact ⟨rfl, H4.out, K4.out⟩
set_option maxHeartbeats 2000000 in
set_option maxRecDepth 100000 in
theorem per_cut (H : Hid (WhS w0 w B m L s)) (hg : Hid (GoodT s)) (hb : Hid (BndT s K)) (hK : K ≤ 400) (i n : Int) (hw : WfI i) (hq : setQ s.set i = true) :
    Calls Try.prog 18 #[.pointer (some ⟨B, 0, none⟩), .agg #[.int .i64 2, .int .i64 i, .int .i64 n]] w (PerOut w0 w B m L (cutT s i)) := by
  have BA := (below_alloc w (.cells #[.int .i64 2, .int .i64 i, .int .i64 n] 36))
  have HA := Lib.hid (H.out.step BA)
  obtain ⟨c0, hB⟩ := whs_read HA.out
  obtain ⟨t0, t1, t2⟩ := trio_at (heap_alloc_new w (.cells #[.int .i64 2, .int .i64 i, .int .i64 n] 36))
  have HQ := Lib.hid hq
  have KA := Lib.hid (keep_below BA)
  clear BA hq
  go_enter Try.func18, Try.ntmps18
  go_wp2_with (first
    | (go_at_call 26; (with_reducible refine (cancel_S HA hg hb hK i hw HQ.out).mono ?_); rintro e w4 ⟨rfl, h4, k4⟩; have H4 := Lib.hid h4; have K4 := Lib.hid (KA.out.trans k4); clear h4 k4)
    | fail)
  go_end0
  exact ⟨rfl, H4.out, K4.out⟩
set_option maxHeartbeats 2000000 in
set_option maxRecDepth 100000 in
theorem per_tick (H : Hid (WhS w0 w B m L s)) (hg : Hid (GoodT s)) (hb : Hid (BndT s K)) (hK : K ≤ 400) (i : Int) (n : Nat) (hn : n ≤ 2000) :
    Calls Try.prog 18 #[.pointer (some ⟨B, 0, none⟩), .agg #[.int .i64 3, .int .i64 i, .int .i64 (n : Int)]] w (PerOut w0 w B m L (tickT s n)) := by
  have BA := (below_alloc w (.cells #[.int .i64 3, .int .i64 i, .int .i64 (n : Int)] 36))
  have HA := Lib.hid (H.out.step BA)
  obtain ⟨t0, t1, t2⟩ := trio_at (heap_alloc_new w (.cells #[.int .i64 3, .int .i64 i, .int .i64 (n : Int)] 36))
  have KA := Lib.hid (keep_below BA)
  clear BA
  go_enter Try.func18, Try.ntmps18
  go_wp2_with fail
  go_loopw [29] (fun i wr => ∃ q : Nat, q ≤ n ∧ i = .int .i64 q ∧ Hid (WhS w0 wr B m L (tickT s q)) ∧ Hid (KeepT w wr)) (fun i _ => n - (intOf i).toNat)
  case atStart => exact ⟨0, Nat.zero_le _, rfl, Lib.hid (by rw [tick_zero hg.out]; exact HA.out), KA⟩
  case round =>
    obtain ⟨q, hq, rfl, HR, HK⟩ := hrel
    by_cases hlt : q < n
    · have G1 := Lib.hid (good_tick hg.out q)
      have B1 := Lib.hid (bnd_tick hb.out q (by omega))
      have hK1 : K + 1 ≤ 401 := by omega
      go_wp2_with (first
        | (go_at_call 27; (with_reducible refine (tick_S HR G1 B1 hK1).mono ?_); rintro e w4 ⟨rfl, h4, k4⟩; rw [tick_tick hg.out] at h4; have H4 := Lib.hid h4; have K4 := Lib.hid (HK.out.trans k4); clear h4 k4)
        | fail)
      go_roundw
      case rel => exact ⟨q + 1, by omega, by go_num, H4, K4⟩
      case measure => simp [intOf]; omega
    · obtain rfl : q = n := by omega
      clear hlt hq
      go_wp2_with fail
      go_end0
      exact ⟨rfl, HR.out, HK.out⟩
theorem perform_S (H : Hid (WhS w0 w B m L s)) (hg : Hid (GoodT s)) (hb : Hid (BndT s K)) (hK : K ≤ 400) (hL : L ≤ 400) (k i n : Int) (hw : WfI i) (he : Hid (errT s ⟨k, i, n⟩ = 0)) :
    Calls Try.prog 18 #[.pointer (some ⟨B, 0, none⟩), .agg #[.int .i64 k, .int .i64 i, .int .i64 n]] w (PerOut w0 w B m (L + 1) (doT s ⟨k, i, n⟩)) := by
  by_cases k1 : k = 1
  · subst k1
    obtain ⟨⟨h1, h2⟩, hq⟩ := err_add he.out rfl
    simp only at h1 h2 hq
    obtain ⟨n', rfl⟩ : ∃ n' : Nat, n = n' := ⟨n.toNat, by omega⟩
    have e : doT s ⟨1, i, (n' : Int)⟩ = addT s i n' := by simp [doT]
    rw [e]
    exact per_add H hg hb hK hL i n' hw (by omega) (by omega) hq
  · by_cases k2 : k = 2
    · subst k2
      have hq := err_cut he.out rfl
      have e : doT s ⟨2, i, n⟩ = cutT s i := by simp [doT]
      rw [e]
      exact (per_cut H hg hb hK i n hw hq).mono fun e w' h => ⟨h.1, h.2.1.more (Nat.le_succ _), h.2.2⟩
    · obtain ⟨k3, h1, h2⟩ := err_tick he.out k1 k2
      simp only at k3 h1 h2
      subst k3
      obtain ⟨n', rfl⟩ : ∃ n' : Nat, n = n' := ⟨n.toNat, by omega⟩
      have e : doT s ⟨3, i, (n' : Int)⟩ = tickT s n' := by simp [doT]
      rw [e]
      exact (per_tick H hg hb hK i n' (by omega)).mono fun e w' h => ⟨h.1, h.2.1.more (Nat.le_succ _), h.2.2⟩
end
end Go.Proofs.Ytnnphmpodcmmoaa
