/- Package rank: the walk of Play. -/
import Derived.Test.YtcnnimhdnmmaoaaRnkC
import Derived.Test.YtcnnimhdnmmaoaaRep
import Derived.StillTailTactics
import Derived.Deep.Cut
import Derived.BigQuiet
import Derived.Deep.QuietTactic
namespace Go.Proofs.Ytcnnimhdnmmaoaa
open Go.RowKit

/-- Error codes so far, in a block of the call's own. -/
def ErrRow (w : World) (E n : Nat) (l : List Int) : Prop := ∃ cur, w.heap[E]? = some (.cells cur 25 (0, 0)) ∧ cur.size = n ∧ ∀ (j : Nat) (x : Int), l[j]? = some x → cur[j]? = some (.int .i64 x)
theorem err_at {w : World} {E n : Nat} {l : List Int} (r : ErrRow w E n l) (cap : Nat) : shI.At w (some ⟨E, 0, none⟩) cap l := by
  obtain ⟨cur, hc, _, hi⟩ := r
  refine ⟨fun e => (by cases e), fun _ => ⟨E, 0, rfl, (Array.getElem?_eq_some_iff.1 hc).1, fun k hk => ?_⟩⟩
  have hk' : k < l.length := by have : shI.size = 1 := rfl; rw [this] at hk; omega
  have hj : l[k]? = some l[k] := List.getElem?_eq_getElem hk'
  have hf := shI.flat_at l k 0 _ hj (by decide)
  have hs : shI.size = 1 := rfl
  rw [hs, Nat.mul_one, Nat.add_zero] at hf
  rw [Nat.zero_add, cell_of_row w E k _ _ _ hc, hf, hi k _ hj]
  rfl
theorem ErrRow.same {w w' : World} {E n : Nat} {l : List Int} (r : ErrRow w E n l) (h : w'.heap[E]? = w.heap[E]?) : ErrRow w' E n l := by
  obtain ⟨cur, hc, r⟩ := r
  exact ⟨cur, h.trans hc, r⟩
theorem ErrRow.lt {w : World} {E n : Nat} {l : List Int} (r : ErrRow w E n l) : E < w.heap.size := by obtain ⟨cur, hc, _⟩ := r; exact heap_lt hc
theorem ErrRow.put {w : World} {E n k : Nat} {l : List Int} (r : ErrRow w E n l) (hk : l.length = k) (hkn : k < n) (e : Int) : ErrRow (w.setCell ⟨E, k, none⟩ (.int .i64 e)) E n (l ++ [e]) := by
  obtain ⟨cur, hc, hs, hi⟩ := r
  refine ⟨_, heap_setCell_same w E k cur _ (.int .i64 e) hc, by simpa using hs, fun j x hj => ?_⟩
  rw [List.getElem?_append] at hj
  split at hj
  · rename_i hlt
    rw [Array.getElem?_setIfInBounds_ne (by omega)]
    exact hi j x hj
  · have e0 : j = k := by
      by_cases h : j = k
      · exact h
      · rw [List.getElem?_singleton, if_neg (by omega)] at hj
        cases hj
    subst e0
    rw [hk, Nat.sub_self] at hj
    simp at hj
    subst hj
    simp [Array.getElem?_setIfInBounds]
    omega
theorem ErrRow.cell {w : World} {E n k : Nat} {l : List Int} (r : ErrRow w E n l) (hk : k < n) : (∃ z, w.cell? ⟨E, k, none⟩ = some z) ∧ ∀ i, w.frozen? ⟨E, i, none⟩ = false := by
  obtain ⟨cur, hc, hs, _⟩ := r
  exact ⟨by rw [cell_of_row w E k _ _ _ hc]; exact ⟨_, Array.getElem?_eq_getElem (by omega)⟩, fun i => frozen_of_row w E i cur _ hc⟩
theorem ErrRow.get {w : World} {E n k : Nat} {l : List Int} {x : Int} (r : ErrRow w E n l) (h : l[k]? = some x) : w.cell? ⟨E, k, none⟩ = some (.int .i64 x) := by
  obtain ⟨cur, hc, hs, hi⟩ := r
  rw [cell_of_row w E k _ _ _ hc]
  exact hi k x h
theorem stepK_eq {T K : Nat} {rk : Bool} {s : RkT} {es : List Int} {kind th lk x : Int} (h : errK T K rk s kind th lk = x) : stepK T K rk (es, s) ⟨kind, th, lk⟩ = (es ++ [x], newK x s kind th lk) := by
  subst h; rfl
/-- An operation in three cells. -/
def shO : Shape RopT := ⟨3, fun o => [.int .i64 o.kind, .int .i64 o.th, .int .i64 o.lk], fun _ => rfl, fun _ u hu => by simp at hu; rcases hu with rfl | rfl | rfl <;> rfl, by decide⟩
theorem at_op {w : World} {ad : Option Addr} {cap k : Nat} {l : List RopT} {f : RopT} (h : shO.At w ad cap l) (hk : l[k]? = some f) : ∃ b off, ad = some ⟨b, off, none⟩ ∧ b < w.heap.size ∧ w.cell? ⟨b, off + k * 3, none⟩ = some (.int .i64 f.kind) ∧ w.cell? ⟨b, off + k * 3 + 1, none⟩ = some (.int .i64 f.th) ∧ w.cell? ⟨b, off + k * 3 + 2, none⟩ = some (.int .i64 f.lk) := by
  have hkl := (List.getElem?_eq_some_iff.1 hk).1
  obtain ⟨b, off, e, hb, hl⟩ := h.2 (by omega)
  have h0 := shO.flat_at l k 0 f hk (by decide)
  have h1 := shO.flat_at l k 1 f hk (by decide)
  have h2 := shO.flat_at l k 2 f hk (by decide)
  have hs : shO.size = 3 := rfl
  rw [hs] at h0 h1 h2 hl
  refine ⟨b, off, e, hb, ?_, ?_, ?_⟩
  · rw [show off + k * 3 = off + (k * 3 + 0) from rfl, hl _ (by omega), h0]; rfl
  · rw [Nat.add_assoc, hl _ (by omega), h1]; rfl
  · rw [Nat.add_assoc, hl _ (by omega), h2]; rfl
theorem runK_take {T K : Nat} {rk : Bool} {ops : List RopT} {k : Nat} {o : RopT} (h : ops[k]? = some o) : runK T K rk (ops.take (k + 1)) = stepK T K rk (runK T K rk (ops.take k)) o := by
  rw [List.take_add_one, h]
  exact runK_snoc _ _ _ _ _
theorem runK_len (T K : Nat) (rk : Bool) (ops : List RopT) : (runK T K rk ops).1.length = ops.length := by
  have : ∀ (l : List RopT) (r : List Int × RkT), (l.foldl (stepK T K rk) r).1.length = r.1.length + l.length := by
    intro l
    induction l with
    | nil => intro r; rfl
    | cons k l ih => intro r; rw [List.foldl_cons, ih]; simp [stepK]; omega
  have h := this ops ([], s0K)
  exact h.trans (by simp)
/-- What is in memory while Play runs. -/
structure LpK (w wx : World) (E B H T K n m : Nat) (rk : Bool) (es : List Int) (s : RkT) : Prop where
  b : Below w.heap.size w wx
  lt : w.heap.size ≤ E ∧ w.heap.size ≤ H ∧ w.heap.size ≤ T
  e : ErrRow wx E m es
  s : StK wx B H T K n rk s
  ne : ¬ E = H ∧ ¬ E = T
section
variable {w wx wy : World} {E B H T K n m : Nat} {rk : Bool} {es : List Int} {s : RkT}
theorem LpK.step (h : LpK w wx E B H T K n m rk es s) (hb : Below wx.heap.size wx wy) : LpK w wy E B H T K n m rk es s :=
  ⟨pstep h.b hb, h.lt, h.e.same (hb.block _ h.e.lt), h.s.step hb, h.ne⟩
theorem LpK.neB (h : LpK w wx E B H T K n m rk es s) : ¬ B = E := by
  obtain ⟨c, h1, _⟩ := h.e
  rintro rfl
  rw [h.s.b] at h1
  simp at h1
theorem LpK.setE (h : LpK w wx E B H T K n m rk es s) {k : Nat} (hk : es.length = k) (hkn : k < m) (x : Int) : LpK w (wx.setCell ⟨E, k, none⟩ (.int .i64 x)) E B H T K n m rk (es ++ [x]) s :=
  ⟨h.b.setCell h.lt.1 _, h.lt, h.e.put hk hkn x, ⟨(Below.heap_setCell _ _ _ _ h.neB).trans h.s.b, h.s.h.other (fun e => h.ne.1 e.symm) _, h.s.t.other (fun e => h.ne.2 e.symm) _, h.s.ne⟩, h.ne⟩
theorem LpK.turn {s' : RkT} (h : LpK w wx E B H T K n m rk es s) (hs : StK wy B H T K n rk s') (ht : Turned w wx wy H T) : LpK w wy E B H T K n m rk es s' :=
  ⟨ht.b, h.lt, h.e.same (ht.o _ h.ne.1 h.ne.2 h.e.lt), hs, h.ne⟩
end
set_option maxHeartbeats 2000000 in
set_option maxRecDepth 100000 in
theorem play_bad (n K : Int) (rk : Bool) (V : Value) (w : World) (h : n < 1 ∨ 16 < n ∨ K < 1 ∨ 16 < K) :
    Calls Try.prog 9 #[.int .i64 n, .int .i64 K, .bool rk, V] w fun e w' => e = .returned (.tuple #[.slice none 0 0, .slice none 0 0, .slice none 0 0, .int .i64 2]) ∧ w = w' := by
  rcases h with h | h | h | h
  all_goals go_enter Try.func9, Try.ntmps9
  all_goals go_wp2_with fail
  all_goals
    refine bodyPost_ret (v := .tuple #[.slice none 0 0, .slice none 0 0, .slice none 0 0, .int .i64 2]) (by simp [results, Try.results9, go_sem]) rfl ?_
    exact ⟨rfl, rfl⟩
set_option maxHeartbeats 4000000 in
set_option maxRecDepth 100000 in
theorem play_ok {ad : Option Addr} {cap m : Nat} {ops : List RopT} (n K : Nat) (rk : Bool) (w : World) (HA : Hid (shO.At w ad cap ops)) (hm : Hid (ops.length = m)) (hmm : m ≤ 17592186044416) (hn1 : 1 ≤ n) (hn2 : n ≤ 16) (hK1 : 1 ≤ K) (hK2 : K ≤ 16) (es : List Int) (s : RkT) (hr : Hid (runK n K rk ops = (es, s))) :
    Calls Try.prog 9 #[.int .i64 n, .int .i64 K, .bool rk, .slice ad m cap] w fun e w' => ∃ E H T, e = .returned (.tuple #[.slice (some ⟨E, 0, none⟩) m m, .slice (some ⟨H, 0, none⟩) K K, .slice (some ⟨T, 0, none⟩) n n, .int .i64 0]) ∧ shI.At w' (some ⟨E, 0, none⟩) m es ∧ IntAt w' (some ⟨H, 0, none⟩) K K s.hold ∧ IntAt w' (some ⟨T, 0, none⟩) n n s.wait ∧ Below w.heap.size w w' := by
  obtain ⟨i0, hi, hz0, hz1, hz2⟩ := info_parts' info_errno
  have hX1 : w.heap.size < (w.alloc (.cells #[.int .i64 (-1)] 3)).heap.size := by simp
  have HX1 : Hid ((w.alloc (.cells #[.int .i64 (-1)] 3)).cell? ⟨w.heap.size, 0, none⟩ = some (.int .i64 (-1))) := Lib.hid (one_at (heap_alloc_new w _))
  have hd1 : decide ((n : Int) < 1) = false := decide_eq_false (by omega)
  have hd2 : decide ((16 : Int) < (n : Int)) = false := decide_eq_false (by omega)
  have hd3 : decide ((K : Int) < 1) = false := decide_eq_false (by omega)
  have hd4 : decide ((16 : Int) < (K : Int)) = false := decide_eq_false (by omega)
  have hb0 : i0.bytes * m ≤ 281474976710656 := by rw [hz2]; omega
  have hmx : m ≤ maxLen := by unfold maxLen; omega
  go_enter Try.func9, Try.ntmps9
  go_wp2_with (first
    | (go_at_call 18; (with_reducible refine (repeat_N (-1) K hK1 hK2 _ HX1 hX1).mono ?_); rintro e w1 ⟨H, rfl, hH, rH, hb1⟩; have B1 := Lib.hid (pstep (below_alloc w (.cells #[.int .i64 (-1)] 3)) hb1); have RH := Lib.hid rH; have HX2 : Hid ((w1.alloc (.cells #[.int .i64 (-1)] 3)).cell? ⟨w1.heap.size, 0, none⟩ = some (.int .i64 (-1))) := Lib.hid (one_at (heap_alloc_new w1 _)); have hX2 : w1.heap.size < (w1.alloc (.cells #[.int .i64 (-1)] 3)).heap.size := (by simp); clear hb1 rH)
    | (go_at_call 18; (with_reducible refine (repeat_N (-1) n hn1 hn2 _ HX2 hX2).mono ?_); rintro e w2 ⟨T, rfl, hT, rT, hb2⟩; have B2 := Lib.hid (pstep (pstep B1.out (below_alloc w1 (.cells #[.int .i64 (-1)] 3))) hb2); have hHT : ¬ H = T := (fun e => by have := RH.out.lt; simp at hT; omega); have S3 : Hid (StK (w2.alloc (.cells #[.slice (some ⟨H, 0, none⟩) K K, .slice (some ⟨T, 0, none⟩) n n, .bool rk] 41)) w2.heap.size H T K n rk s0K) := Lib.hid ⟨heap_alloc_new w2 _, ((RH.out.step (below_alloc w1 _)).step hb2).step (below_alloc w2 _), rT.step (below_alloc w2 _), hHT⟩; clear hb2 rT)
    | (at_make; refine wpList_make_full _ rfl _ _ 23 rfl w.heap.size 25 i0 _ 1 Try.underlying23 hi hz0 hz1 .i64 .i64 _ _ m rfl rfl rfl rfl hb0 hmx (by have := B2.out.size; simp; omega) ?_)
    | fail)
  intro w3 hown hgrow
  have L0 : LpK w w3 (w2.heap.size + 1) w2.heap.size H T K n m rk [] s0K := by
    have hb3 : Below (w2.heap.size + 1) (w2.alloc (.cells #[.slice (some ⟨H, 0, none⟩) K K, .slice (some ⟨T, 0, none⟩) n n, .bool rk] 41)) w3 := by
      have := (Below.refl (w2.alloc (.cells #[.slice (some ⟨H, 0, none⟩) K K, .slice (some ⟨T, 0, none⟩) n n, .bool rk] 41)).heap.size _).grown hgrow (Nat.le_refl _) (fun k hk => by cases hk)
      simpa using this
    have hTl : T < w2.heap.size + 1 := by have := S3.out.t.lt; simpa using this
    have hHl : H < w2.heap.size + 1 := by have := S3.out.h.lt; simpa using this
    refine ⟨pstep B2.out ((below_alloc w2 _).trans (hb3.mono (by simp))), ⟨by have := B2.out.size; omega, by simp at hH; omega, by have := B1.out.size; simp at hT; omega⟩, ?_, S3.out.step (by simpa using hb3), ⟨by omega, by omega⟩⟩
    obtain ⟨_, h2⟩ := hown
    rcases h2 with ⟨h2, _⟩ | ⟨g, cp, cur, e, _, hc, _, _, hsz, _⟩
    · cases h2
    · simp only [Value.slice.injEq, Option.some.injEq, Addr.mk.injEq, and_true, true_and] at e
      obtain ⟨rfl, rfl⟩ := e
      exact ⟨cur, by simpa using hc, by simpa using hsz, fun j x hj => by simp at hj⟩
  have H2 := Lib.hid L0
  clear L0 hown hgrow S3 B2 B1 RH hX2 HX2 HX1 hX1
  go_wp2_with fail
  generalize w2.heap.size = B at H2 ⊢
  generalize hE : B + 1 = E at H2 ⊢
  go_loopw [43] (fun i wr => ∃ k : Nat, k ≤ m ∧ i = .int .i64 k ∧ Hid (LpK w wr E B H T K n m rk (runK n K rk (ops.take k)).1 (runK n K rk (ops.take k)).2)) (fun i _ => m - (intOf i).toNat)
  case atStart => exact ⟨0, Nat.zero_le _, rfl, H2⟩
  case round =>
    clear H2
    obtain ⟨k, hk, rfl, HL⟩ := hrel
    have hlen := runK_len n K rk (ops.take k)
    rw [List.length_take, hm.out, Nat.min_eq_left hk] at hlen
    obtain ⟨st, hst⟩ : ∃ st, runK n K rk (ops.take k) = st := ⟨_, rfl⟩
    have HN : ∀ o, ops[k]? = some o → runK n K rk (ops.take (k + 1)) = stepK n K rk st o := fun o ho => by rw [runK_take ho, hst]
    rw [hst] at HL hlen
    have HNX := Lib.hid HN
    clear HN
    obtain ⟨es1, s1⟩ := st
    simp only at HL hlen
    by_cases hkl : k < m
    · obtain ⟨o, ho⟩ : ∃ o, ops[k]? = some o := ⟨ops[k]'(by rw [hm.out]; exact hkl), List.getElem?_eq_getElem _⟩
      have HNY := Lib.hid (HNX.out _ ho)
      obtain ⟨b, off, rfl, hb, e0, e1, e2⟩ := at_op HA.out ho
      have g0 := (HL.out.b.cell (p := ⟨b, off + k * 3, none⟩) hb).trans e0
      have g1 := (HL.out.b.cell (p := ⟨b, off + k * 3 + 1, none⟩) hb).trans e1
      have g2 := (HL.out.b.cell (p := ⟨b, off + k * 3 + 2, none⟩) hb).trans e2
      have hbr : b < wr.heap.size := Nat.lt_of_lt_of_le hb HL.out.b.size
      obtain ⟨kind, th, lk⟩ := o
      simp only at g0 g1 g2
      have HLEN := Lib.hid hlen
      clear e0 e1 e2 ho HNX hlen hst
      obtain ⟨x, hx⟩ : ∃ x, errK n K rk s1 kind th lk = x := ⟨_, rfl⟩
      have HX := Lib.hid hx
      have L1 := Lib.hid (HL.out.step (below_alloc wr (.cells #[.int .i64 kind, .int .i64 th, .int .i64 lk] 35)))
      have S1 := Lib.hid L1.out.s
      have X1 := Lib.hid (heap_alloc_new wr (.cells #[.int .i64 kind, .int .i64 th, .int .i64 lk] 35))
      clear hx
      go_upto_region 9 with (first
        | (go_at_call 19; (with_reducible refine (check_N S1 hK2 kind th lk x HX).mono ?_); rintro e w3 ⟨rfl, hb3⟩; have L3 := Lib.hid (L1.out.step hb3); have X3 := Lib.hid (heap_step X1.out hb3); have F3 := L3.out.e.cell hkl; obtain ⟨⟨z, F3z⟩, F3f⟩ := F3; clear hb3)
        | fail)
      have L4 := Lib.hid (L3.out.setE HLEN.out hkl x)
      have X4 := Lib.hid ((Below.heap_setCell w3 ⟨E, k, none⟩ (.int .i64 x) wr.heap.size (by have := HL.out.e.lt; simp; omega)).trans X3.out)
      clear L3 X3 F3z F3f L1 S1 X1
      generalize w3.setCell ⟨E, k, none⟩ (.int .i64 x) = w4 at L4 X4 ⊢
      obtain ⟨y0, y1, y2⟩ := trio_at X4.out
      have y3 := L4.out.e.get (k := k) (x := x) (by rw [List.getElem?_append_right (Nat.le_of_eq HLEN.out), HLEN.out, Nat.sub_self]; rfl)
      have y4 := heap_lt X4.out
      have L5 := Lib.hid (L4.out.step (Below.refl _ _).drew)
      have S5 := Lib.hid L5.out.s
      have B5 := Lib.hid L5.out.b
      obtain ⟨_, hlH, hlT⟩ := L5.out.lt
      have HNZ := Lib.hid (HNY.out.trans (stepK_eq HX.out))
      clear L4 X4 HNY HL
      go_still_tail 5, (by kernel_rfl)
      change wpList _ _ _ _ _ w4.drew
      clear y0 y1 y2 y3 y4
      generalize w4.drew = w5 at L5 S5 B5 ⊢
      go_wp2_with (first
        | (go_at_call 20; (with_reducible refine (perform_N S5 B5 hlH hlT kind th lk x HX).mono ?_); rintro e w6 ⟨rfl, hs6, ht6⟩; have L6 := Lib.hid (L5.out.turn hs6 ht6); clear hs6 ht6)
        | fail)
      go_roundw
      case rel => exact ⟨k + 1, by omega, by go_num, by rw [HNZ.out]; exact L6⟩
      case measure => simp [intOf]; omega
    · obtain rfl : k = m := by omega
      have hre : (es1, s1) = (es, s) := by rw [← hst, ← hr.out, ← hm.out, List.take_length]
      simp only [Prod.mk.injEq] at hre
      obtain ⟨rfl, rfl⟩ := hre
      obtain ⟨c0, c1, c2⟩ := trio_at HL.out.s.b
      have hBl := heap_lt HL.out.s.b
      have HLD := Lib.hid (fun q => HL.out.step (below_drewN (Below.refl _ _) q))
      clear HNX hst hlen HL
      go_wp2_with fail
      go_quiet (fail)
      go_wp2_with fail
      refine bodyPost_ret (v := .tuple #[.slice (some ⟨E, 0, none⟩) k k, .slice (some ⟨H, 0, none⟩) K K, .slice (some ⟨T, 0, none⟩) n n, .int .i64 0]) (by simp [results, Try.results9, go_sem]) rfl ?_
      exact ⟨E, H, T, rfl, err_at (HLD.out _).e _, (HLD.out _).s.h.at _, (HLD.out _).s.t.at _, (HLD.out _).b⟩
end Go.Proofs.Ytcnnimhdnmmaoaa
