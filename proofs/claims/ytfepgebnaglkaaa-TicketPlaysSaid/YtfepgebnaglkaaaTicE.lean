/- '==' on two locks that are the same; slices.Equal on numbers; corebellkeep.alive6. -/
import Derived.Test.YtfepgebnaglkaaaTicPm
namespace Go.Proofs.Ytfepgebnaglkaaa
open Go.RowKit

theorem Shape.At.lit {α : Type} {S : Shape α} {w : World} {b T cap : Nat} (l : List α) (hh : w.heap[b]? = some (.cells (S.flat l).toArray T (0, 0))) : S.At w (some ⟨b, 0, none⟩) cap l :=
  ⟨fun e => (by cases e), fun _ => ⟨b, 0, rfl, (Array.getElem?_eq_some_iff.1 hh).1, fun k _ => by
    rw [cell_of_row w b _ _ _ _ hh, Nat.zero_add, List.getElem?_toArray]⟩⟩
theorem part_int (xs : Array Value) (i : Nat) (v : Value) (h : xs[i]? = some v) (w : World) : (part 3 xs i).run Try.prog w = .ok v w := by
  simp [part, Try.isAgg3, h, Sem.run_bind]
theorem part_bool (xs : Array Value) (i : Nat) (v : Value) (h : xs[i]? = some v) (w : World) : (part 4 xs i).run Try.prog w = .ok v w := by
  simp [part, Try.isAgg4, h, Sem.run_bind]
/-- Eight numbers are themselves. -/
theorem eq_ints8 (f : Nat → Int) (w : World) :
    (Op.equalIn 10000 22 (.agg #[.int .i64 (f 0), .int .i64 (f 1), .int .i64 (f 2), .int .i64 (f 3), .int .i64 (f 4), .int .i64 (f 5), .int .i64 (f 6), .int .i64 (f 7)]) (.agg #[.int .i64 (f 0), .int .i64 (f 1), .int .i64 (f 2), .int .i64 (f 3), .int .i64 (f 4), .int .i64 (f 5), .int .i64 (f 6), .int .i64 (f 7)])).run Try.prog w = .ok true w := by
  have e : ∀ (x : Int) (w : World), (Op.equalIn 9999 3 (.int .i64 x) (.int .i64 x)).run Try.prog w = .ok true w := fun x w => by rw [run_equalIn_int w 9998 _ _ _ x x Try.underlying3]; simp
  rw [Op.equalIn]
  simp only [Sem.run_bind, run_underlying Try.underlying22, Result.andThen_ok, Try.sizeOf3]
  simp [Std.Legacy.Range.forIn_eq_forIn_range', Std.Legacy.Range.size, List.range', Sem.run_bind]
  have p0 : ∀ (a b c d e f g h : Value) (w : World), (part 3 #[a, b, c, d, e, f, g, h] 0).run Try.prog w = .ok a w := fun a b c d e f g h w => part_int _ 0 a rfl w
  have p1 : ∀ (a b c d e f g h : Value) (w : World), (part 3 #[a, b, c, d, e, f, g, h] 1).run Try.prog w = .ok b w := fun a b c d e f g h w => part_int _ 1 b rfl w
  have p2 : ∀ (a b c d e f g h : Value) (w : World), (part 3 #[a, b, c, d, e, f, g, h] 2).run Try.prog w = .ok c w := fun a b c d e f g h w => part_int _ 2 c rfl w
  have p3 : ∀ (a b c d e f g h : Value) (w : World), (part 3 #[a, b, c, d, e, f, g, h] 3).run Try.prog w = .ok d w := fun a b c d e f g h w => part_int _ 3 d rfl w
  have p4 : ∀ (a b c d e f g h : Value) (w : World), (part 3 #[a, b, c, d, e, f, g, h] 4).run Try.prog w = .ok e w := fun a b c d e f g h w => part_int _ 4 e rfl w
  have p5 : ∀ (a b c d e f g h : Value) (w : World), (part 3 #[a, b, c, d, e, f, g, h] 5).run Try.prog w = .ok f w := fun a b c d e f g h w => part_int _ 5 f rfl w
  have p6 : ∀ (a b c d e f g h : Value) (w : World), (part 3 #[a, b, c, d, e, f, g, h] 6).run Try.prog w = .ok g w := fun a b c d e f g h w => part_int _ 6 g rfl w
  have p7 : ∀ (a b c d e f g h : Value) (w : World), (part 3 #[a, b, c, d, e, f, g, h] 7).run Try.prog w = .ok h w := fun a b c d e f g h w => part_int _ 7 h rfl w
  simp only [p0, p1, p2, p3, p4, p5, p6, p7, Result.andThen_ok, e]
  simp
theorem eq_bools8 (f : Nat → Bool) (w : World) :
    (Op.equalIn 10000 23 (.agg #[.bool (f 0), .bool (f 1), .bool (f 2), .bool (f 3), .bool (f 4), .bool (f 5), .bool (f 6), .bool (f 7)]) (.agg #[.bool (f 0), .bool (f 1), .bool (f 2), .bool (f 3), .bool (f 4), .bool (f 5), .bool (f 6), .bool (f 7)])).run Try.prog w = .ok true w := by
  have e : ∀ (x : Bool) (w : World), (Op.equalIn 9999 4 (.bool x) (.bool x)).run Try.prog w = .ok true w := fun x w => by rw [run_equalIn_bool w 9998 _ x x Try.underlying4]; simp
  rw [Op.equalIn]
  simp only [Sem.run_bind, run_underlying Try.underlying23, Result.andThen_ok, Try.sizeOf4]
  simp [Std.Legacy.Range.forIn_eq_forIn_range', Std.Legacy.Range.size, List.range', Sem.run_bind]
  have p0 : ∀ (a b c d e f g h : Value) (w : World), (part 4 #[a, b, c, d, e, f, g, h] 0).run Try.prog w = .ok a w := fun a b c d e f g h w => part_bool _ 0 a rfl w
  have p1 : ∀ (a b c d e f g h : Value) (w : World), (part 4 #[a, b, c, d, e, f, g, h] 1).run Try.prog w = .ok b w := fun a b c d e f g h w => part_bool _ 1 b rfl w
  have p2 : ∀ (a b c d e f g h : Value) (w : World), (part 4 #[a, b, c, d, e, f, g, h] 2).run Try.prog w = .ok c w := fun a b c d e f g h w => part_bool _ 2 c rfl w
  have p3 : ∀ (a b c d e f g h : Value) (w : World), (part 4 #[a, b, c, d, e, f, g, h] 3).run Try.prog w = .ok d w := fun a b c d e f g h w => part_bool _ 3 d rfl w
  have p4 : ∀ (a b c d e f g h : Value) (w : World), (part 4 #[a, b, c, d, e, f, g, h] 4).run Try.prog w = .ok e w := fun a b c d e f g h w => part_bool _ 4 e rfl w
  have p5 : ∀ (a b c d e f g h : Value) (w : World), (part 4 #[a, b, c, d, e, f, g, h] 5).run Try.prog w = .ok f w := fun a b c d e f g h w => part_bool _ 5 f rfl w
  have p6 : ∀ (a b c d e f g h : Value) (w : World), (part 4 #[a, b, c, d, e, f, g, h] 6).run Try.prog w = .ok g w := fun a b c d e f g h w => part_bool _ 6 g rfl w
  have p7 : ∀ (a b c d e f g h : Value) (w : World), (part 4 #[a, b, c, d, e, f, g, h] 7).run Try.prog w = .ok h w := fun a b c d e f g h w => part_bool _ 7 h rfl w
  simp only [p0, p1, p2, p3, p4, p5, p6, p7, Result.andThen_ok, e]
  simp
/-- Eight numbers are themselves. -/
theorem eq_ints8' (f : Nat → Int) (w : World) :
    (Op.equalIn 9999 22 (.agg #[.int .i64 (f 0), .int .i64 (f 1), .int .i64 (f 2), .int .i64 (f 3), .int .i64 (f 4), .int .i64 (f 5), .int .i64 (f 6), .int .i64 (f 7)]) (.agg #[.int .i64 (f 0), .int .i64 (f 1), .int .i64 (f 2), .int .i64 (f 3), .int .i64 (f 4), .int .i64 (f 5), .int .i64 (f 6), .int .i64 (f 7)])).run Try.prog w = .ok true w := by
  have e : ∀ (x : Int) (w : World), (Op.equalIn 9998 3 (.int .i64 x) (.int .i64 x)).run Try.prog w = .ok true w := fun x w => by rw [run_equalIn_int w 9997 _ _ _ x x Try.underlying3]; simp
  rw [Op.equalIn]
  simp only [Sem.run_bind, run_underlying Try.underlying22, Result.andThen_ok, Try.sizeOf3]
  simp [Std.Legacy.Range.forIn_eq_forIn_range', Std.Legacy.Range.size, List.range', Sem.run_bind]
  have p0 : ∀ (a b c d e f g h : Value) (w : World), (part 3 #[a, b, c, d, e, f, g, h] 0).run Try.prog w = .ok a w := fun a b c d e f g h w => part_int _ 0 a rfl w
  have p1 : ∀ (a b c d e f g h : Value) (w : World), (part 3 #[a, b, c, d, e, f, g, h] 1).run Try.prog w = .ok b w := fun a b c d e f g h w => part_int _ 1 b rfl w
  have p2 : ∀ (a b c d e f g h : Value) (w : World), (part 3 #[a, b, c, d, e, f, g, h] 2).run Try.prog w = .ok c w := fun a b c d e f g h w => part_int _ 2 c rfl w
  have p3 : ∀ (a b c d e f g h : Value) (w : World), (part 3 #[a, b, c, d, e, f, g, h] 3).run Try.prog w = .ok d w := fun a b c d e f g h w => part_int _ 3 d rfl w
  have p4 : ∀ (a b c d e f g h : Value) (w : World), (part 3 #[a, b, c, d, e, f, g, h] 4).run Try.prog w = .ok e w := fun a b c d e f g h w => part_int _ 4 e rfl w
  have p5 : ∀ (a b c d e f g h : Value) (w : World), (part 3 #[a, b, c, d, e, f, g, h] 5).run Try.prog w = .ok f w := fun a b c d e f g h w => part_int _ 5 f rfl w
  have p6 : ∀ (a b c d e f g h : Value) (w : World), (part 3 #[a, b, c, d, e, f, g, h] 6).run Try.prog w = .ok g w := fun a b c d e f g h w => part_int _ 6 g rfl w
  have p7 : ∀ (a b c d e f g h : Value) (w : World), (part 3 #[a, b, c, d, e, f, g, h] 7).run Try.prog w = .ok h w := fun a b c d e f g h w => part_int _ 7 h rfl w
  simp only [p0, p1, p2, p3, p4, p5, p6, p7, Result.andThen_ok, e]
  simp
theorem eq_bools8' (f : Nat → Bool) (w : World) :
    (Op.equalIn 9999 23 (.agg #[.bool (f 0), .bool (f 1), .bool (f 2), .bool (f 3), .bool (f 4), .bool (f 5), .bool (f 6), .bool (f 7)]) (.agg #[.bool (f 0), .bool (f 1), .bool (f 2), .bool (f 3), .bool (f 4), .bool (f 5), .bool (f 6), .bool (f 7)])).run Try.prog w = .ok true w := by
  have e : ∀ (x : Bool) (w : World), (Op.equalIn 9998 4 (.bool x) (.bool x)).run Try.prog w = .ok true w := fun x w => by rw [run_equalIn_bool w 9997 _ x x Try.underlying4]; simp
  rw [Op.equalIn]
  simp only [Sem.run_bind, run_underlying Try.underlying23, Result.andThen_ok, Try.sizeOf4]
  simp [Std.Legacy.Range.forIn_eq_forIn_range', Std.Legacy.Range.size, List.range', Sem.run_bind]
  have p0 : ∀ (a b c d e f g h : Value) (w : World), (part 4 #[a, b, c, d, e, f, g, h] 0).run Try.prog w = .ok a w := fun a b c d e f g h w => part_bool _ 0 a rfl w
  have p1 : ∀ (a b c d e f g h : Value) (w : World), (part 4 #[a, b, c, d, e, f, g, h] 1).run Try.prog w = .ok b w := fun a b c d e f g h w => part_bool _ 1 b rfl w
  have p2 : ∀ (a b c d e f g h : Value) (w : World), (part 4 #[a, b, c, d, e, f, g, h] 2).run Try.prog w = .ok c w := fun a b c d e f g h w => part_bool _ 2 c rfl w
  have p3 : ∀ (a b c d e f g h : Value) (w : World), (part 4 #[a, b, c, d, e, f, g, h] 3).run Try.prog w = .ok d w := fun a b c d e f g h w => part_bool _ 3 d rfl w
  have p4 : ∀ (a b c d e f g h : Value) (w : World), (part 4 #[a, b, c, d, e, f, g, h] 4).run Try.prog w = .ok e w := fun a b c d e f g h w => part_bool _ 4 e rfl w
  have p5 : ∀ (a b c d e f g h : Value) (w : World), (part 4 #[a, b, c, d, e, f, g, h] 5).run Try.prog w = .ok f w := fun a b c d e f g h w => part_bool _ 5 f rfl w
  have p6 : ∀ (a b c d e f g h : Value) (w : World), (part 4 #[a, b, c, d, e, f, g, h] 6).run Try.prog w = .ok g w := fun a b c d e f g h w => part_bool _ 6 g rfl w
  have p7 : ∀ (a b c d e f g h : Value) (w : World), (part 4 #[a, b, c, d, e, f, g, h] 7).run Try.prog w = .ok h w := fun a b c d e f g h w => part_bool _ 7 h rfl w
  simp only [p0, p1, p2, p3, p4, p5, p6, p7, Result.andThen_ok, e]
  simp
theorem part_agg (T : TypeId) (n : Nat) (hT : ∀ w, (isAgg T).run Try.prog w = .ok true w) (hs : ∀ w, (sizeOf T).run Try.prog w = .ok n w) (xs ys : Array Value) (i : Nat) (h : xs.extract i (i + n) = ys) (w : World) : (part T xs i).run Try.prog w = .ok (.agg ys) w := by
  simp [part, hT, hs, h, Sem.run_bind]
/-- A lock is itself. -/
theorem eq_lock (l : LockT) (R : Array Value) (hR : Hid (lockRow l = R)) (w : World) : (Op.equalIn 10000 25 (.agg R) (.agg R)).run Try.prog w = .ok true w := by
  rw [← hR.out]
  have e : ∀ (x : Int) (w : World), (Op.equalIn 9999 3 (.int .i64 x) (.int .i64 x)).run Try.prog w = .ok true w := fun x w => by rw [run_equalIn_int w 9998 _ _ _ x x Try.underlying3]; simp
  rw [Op.equalIn]
  simp only [Sem.run_bind, run_underlying Try.underlying25, Result.andThen_ok]
  have hs : Try.prog.stoodInHeld 25 = false := by kernel_rfl
  have p0 : ∀ w : World, (part 3 (lockRow l) 0).run Try.prog w = .ok (.int .i64 l.next) w := part_int _ 0 _ rfl
  have p1 : ∀ w : World, (part 3 (lockRow l) 1).run Try.prog w = .ok (.int .i64 l.now) w := part_int _ 1 _ rfl
  have p2 : ∀ w : World, (part 22 (lockRow l) 2).run Try.prog w = .ok (.agg #[.int .i64 (l.mine 0), .int .i64 (l.mine 1), .int .i64 (l.mine 2), .int .i64 (l.mine 3), .int .i64 (l.mine 4), .int .i64 (l.mine 5), .int .i64 (l.mine 6), .int .i64 (l.mine 7)]) w := part_agg _ 8 Try.isAgg22 Try.sizeOf22 _ _ 2 rfl
  have p3 : ∀ w : World, (part 23 (lockRow l) 10).run Try.prog w = .ok (.agg #[.bool (l.inn 0), .bool (l.inn 1), .bool (l.inn 2), .bool (l.inn 3), .bool (l.inn 4), .bool (l.inn 5), .bool (l.inn 6), .bool (l.inn 7)]) w := part_agg _ 8 Try.isAgg23 Try.sizeOf23 _ _ 10 rfl
  simp [hs, Sem.run_bind, p0, p1, p2, p3, eq_ints8', eq_bools8', e]
theorem at_int {w : World} {ad : Option Addr} {cap k : Nat} {l : List Int} {x : Int} (h : shI.At w ad cap l) (hk : l[k]? = some x) : ∃ b off, ad = some ⟨b, off, none⟩ ∧ b < w.heap.size ∧ w.cell? ⟨b, off + k, none⟩ = some (.int .i64 x) := by
  have hkl := (List.getElem?_eq_some_iff.1 hk).1
  obtain ⟨b, off, e, hb, hl⟩ := h.2 (by omega)
  have h0 := shI.flat_at l k 0 x hk (by decide)
  have hs : shI.size = 1 := rfl
  rw [hs] at h0 hl
  refine ⟨b, off, e, hb, ?_⟩
  rw [hl k (by omega), show k = k * 1 + 0 by omega, h0]
  rfl
set_option maxHeartbeats 1000000 in
theorem equalI {a1 a2 : Option Addr} {c1 c2 n : Nat} {l : List Int} (w : World) (hl : Hid (l.length = n)) (H1 : Hid (shI.At w a1 c1 l)) (H2 : Hid (shI.At w a2 c2 l)) (hn : n ≤ 9223372036854775807) :
    Calls Try.prog 15 #[.slice a1 n c1, .slice a2 n c2] w fun e w' => e = .returned (.bool true) ∧ Below w.heap.size w w' := by
  go_enter Try.func15, Try.ntmps15
  go_wp2_with fail
  go_loopw [13] (fun i wr => ∃ k : Nat, k ≤ n ∧ i = .int .i64 k ∧ ∃ q, wr = w.drewN q) (fun i _ => n - (intOf i).toNat)
  case atStart => exact ⟨0, Nat.zero_le _, rfl, 0, rfl⟩
  case round =>
    obtain ⟨k, hk, rfl, q, rfl⟩ := hrel
    by_cases hlt : k < n
    · obtain ⟨x, hx⟩ : ∃ x, l[k]? = some x := ⟨l[k]'(by rw [hl.out]; exact hlt), List.getElem?_eq_getElem _⟩
      obtain ⟨b, off, rfl, _, c0⟩ := at_int H1.out hx
      obtain ⟨b2, off2, rfl, _, c1⟩ := at_int H2.out hx
      clear hx
      go_wp2_with fail
      go_quiet (fail)
      go_wp2_with fail
      go_roundw
      case rel => exact ⟨k + 1, by omega, by go_num, _, rfl⟩
      case measure => simp [intOf]; omega
    · obtain rfl : k = n := by omega
      clear hlt hk
      go_wp2_with fail
      go_ret
      exact ⟨rfl, below_drewN (Below.refl _ _) _⟩
theorem play_E {ad : Option Addr} {cap n : Nat} {ops : List LopT} (w : World) (HA : Hid (shL.At w ad cap ops)) (hm : Hid (ops.length = n)) (hn : n ≤ 8796093022208) (r : RunT) (Hr : Hid (runT ops = r)) (es : List Int) (m : Nat) (He : Hid (r.es = es)) (Hm : Hid (es.length = m)) (R9 : Array Value) (HR9 : Hid (lockRow r.l = R9)) :
    Calls Try.prog 13 #[.slice ad n cap] w fun e w' => ∃ ra rc, e = .returned (.tuple #[.slice ra m rc, .agg R9]) ∧ shI.At w' ra rc es ∧ Below w.heap.size w w' := by
  rw [← Hm.out, ← He.out]
  exact play_R w HA hm hn r Hr R9 HR9
def alO : List LopT := [⟨1, 2⟩, ⟨1, 5⟩, ⟨2, 5⟩, ⟨2, 2⟩, ⟨3, 2⟩, ⟨2, 5⟩]
theorem al_rt : Rt (runT alO).l := (fair_run alO).rt
theorem al_run : (runT alO).es = [2, 5] ∧ (runT alO).l.now = 1 ∧ (runT alO).l.next = 2 ∧ (runT alO).l.inn 5 = true := by decide +kernel
set_option maxHeartbeats 1000000 in
set_option maxRecDepth 100000 in
theorem alive6_R (w : World) : Calls Try.prog 17 #[] w fun e w' => e = .returned (.bool true) ∧ Below w.heap.size w w' := by
  obtain ⟨r, hr⟩ : ∃ r, runT alO = r := ⟨_, rfl⟩
  obtain ⟨R, hR⟩ : ∃ R, lockRow r.l = R := ⟨_, rfl⟩
  have hal := al_run
  have hrt := al_rt
  rw [hr] at hal hrt
  obtain ⟨h1, h2, h3, h4⟩ := hal
  have q0 : R[0]? = some (.int .i64 2) := by rw [← hR, lockRow_next, h3]
  have q1 : R[1]? = some (.int .i64 1) := by rw [← hR, lockRow_now, h2]
  have q5 : R[15]? = some (.bool true) := by rw [← hR]; show some (Value.bool (r.l.inn 5)) = _; rw [h4]
  have HS : Hid (R.size = 18) := Lib.hid (by rw [← hR]; rfl)
  have HA : Hid (R.all (·.oneCell') = true) := Lib.hid (by rw [← hR]; exact row_all _)
  have HE := Lib.hid h1
  have HR := Lib.hid hR
  have Hr := Lib.hid hr
  have HRT := Lib.hid hrt
  have HO : Hid (shL.At (w.alloc (.cells #[.int .i64 1, .int .i64 2, .int .i64 1, .int .i64 5, .int .i64 2, .int .i64 5, .int .i64 2, .int .i64 2, .int .i64 3, .int .i64 2, .int .i64 2, .int .i64 5] 27)) (some ⟨w.heap.size, 0, none⟩) 6 alO) := Lib.hid (Shape.At.lit alO (heap_alloc_new _ _))
  have HI : Hid (∀ w : World, shI.At (w.alloc (.cells #[.int .i64 2, .int .i64 5] 3)) (some ⟨w.heap.size, 0, none⟩) 2 [2, 5]) := Lib.hid fun w => Shape.At.lit [2, 5] (heap_alloc_new _ _)
  have B0 := Lib.hid (below_alloc w (.cells #[.int .i64 1, .int .i64 2, .int .i64 1, .int .i64 5, .int .i64 2, .int .i64 5, .int .i64 2, .int .i64 2, .int .i64 3, .int .i64 2, .int .i64 2, .int .i64 5] 27))
  have hz := (zero_of_info info_lock).1
  clear h1 h2 h3 h4 hR hr hrt
  go_enter Try.func17, Try.ntmps17
  go_wp2_with (first
    | (go_at_call 13; (with_reducible refine (play_E (n := 6) _ HO (Lib.hid rfl) (by decide) r Hr [2, 5] 2 HE (Lib.hid rfl) R HR).mono ?_); rintro e w1 ⟨ra, rc, rfl, RA, hb⟩; have B1 := Lib.hid (pstep B0.out hb); have HRA := Lib.hid RA; clear hb RA)
    | (refine wpList_store_row rfl 25 _ _ rfl w1.heap.size R rfl rfl 25 (lockRow lz) (heap_alloc_new w1 _) (by rw [size_lock, HS.out]) (by rw [HS.out]; rfl) HA.out ?_; intro w2 hw2; have B2 := Lib.hid ((pstep B1.out (below_alloc w1 _)).trans (hw2.below _ (B1.out.size))); have P2 := Lib.hid hw2.put; have A2 := Lib.hid (HRA.out.step ((below_alloc w1 _).trans (hw2.below _ (Nat.le_refl _)))); have L2 : w1.heap.size < w2.heap.size := (Array.getElem?_eq_some_iff.1 P2.out).1; clear hw2)
    | (go_at_call 15; (with_reducible refine (equalI (n := 2) _ (Lib.hid rfl) (Lib.hid (A2.out.step (below_alloc _ _))) (Lib.hid (HI.out _)) (by decide)).mono ?_); rintro e w3 ⟨rfl, hb⟩; have B3 := Lib.hid (pstep (pstep B2.out (below_alloc _ _)) hb); have P3 := Lib.hid (heap_step (heap_step P2.out (below_alloc _ _)) hb); have c0 : w3.cell? ⟨w1.heap.size, 0, none⟩ = some (.int .i64 2) := (by rw [cell_of_row _ _ _ _ _ _ P3.out]; exact q0); have c1 : w3.cell? ⟨w1.heap.size, 1, none⟩ = some (.int .i64 1) := (by rw [cell_of_row _ _ _ _ _ _ P3.out]; exact q1); have c5 : w3.cell? ⟨w1.heap.size, 15, none⟩ = some (.bool true) := (by rw [cell_of_row _ _ _ _ _ _ P3.out]; exact q5); clear hb)
    | (refine wpList_load_row_g rfl 25 _ rfl w1.heap.size rfl 25 R (0, 0) _ P3.out Try.underlying25 rfl (by rw [size_lock, HS.out]) ?_)
    | (go_at_call 12; (with_reducible refine (right_Y r.l R HR _ true (Lib.hid (okT_true.2 HRT.out))).mono ?_); rintro e w4 ⟨rfl, hb⟩; have B4 := Lib.hid (pstep B3.out hb); clear hb)
    | fail)
  go_ret
  exact ⟨rfl, B4.out⟩
end Go.Proofs.Ytfepgebnaglkaaa
