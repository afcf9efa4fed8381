/- Package cores: the walk of Run. -/
import Derived.Test.YtningajaimbncaaCorH
namespace Go.Proofs.Ytningajaimbncaa
open Go.RowKit

theorem info_ints : (Try.prog.info? 29).map (fun i => (i.zero, i.size, i.bytes)) = some (some (.slice none 0 0), 1, 24) := by kernel_rfl
/-- Who runs in tick t, in increasing order. -/
def rowN (T : ThN) (t : Nat) : List Int := sortI ((T.runN t).map fun k => ((k : Nat) : Int))
theorem rowN_len (T : ThN) (t : Nat) : (rowN T t).length = (T.runN t).length := by rw [rowN, sortI_len, List.length_map]
/-- A slice of slices of numbers reads as rows. -/
def RunsAt (w : World) (ad : Option Addr) (cap n : Nat) (rows : Nat → List Int) : Prop :=
  (ad = none → cap = 0 ∧ n = 0) ∧ ∀ t, t < n → ∃ b off a c, ad = some ⟨b, off, none⟩ ∧ b < w.heap.size ∧ w.cell? ⟨b, off + t, none⟩ = some (.slice a (rows t).length c) ∧ shI.At w a c (rows t)
theorem RunsAt.step {w w' : World} {ad : Option Addr} {cap n : Nat} {rows : Nat → List Int} (h : RunsAt w ad cap n rows) (hb : Below w.heap.size w w') : RunsAt w' ad cap n rows :=
  ⟨h.1, fun t ht => by
    obtain ⟨b, off, a, c, e, hlt, hc, hA⟩ := h.2 t ht
    exact ⟨b, off, a, c, e, Nat.lt_of_lt_of_le hlt hb.size, (hb.cell (p := ⟨b, off + t, none⟩) hlt).trans hc, hA.step hb⟩⟩
/-- The rows so far, in a block of the call's own. -/
def RunRow (w : World) (base E n d : Nat) (rows : Nat → List Int) : Prop :=
  ∃ cur : Array Value, w.heap[E]? = some (.cells cur 29 (0, 0)) ∧ cur.size = n ∧ ∀ t, t < d → ∃ a c, cur[t]? = some (.slice a (rows t).length c) ∧ w.ownsRow base 3 1 (.slice a (rows t).length c) (rows t).length (shI.flat (rows t))
section
variable {w w' : World} {base E n d : Nat} {rows : Nat → List Int}
theorem RunRow.lt (h : RunRow w base E n d rows) : E < w.heap.size := by obtain ⟨cur, hc, _⟩ := h; exact heap_lt hc
theorem own_keep {e sz k : Nat} {v : Value} {xs : List Value} (h : w.ownsRow base e sz v k xs) (hk : KeepN w w') (h1 : ¬ e = 60) (h2 : ¬ e = 48) (h3 : ¬ e = 58) : w'.ownsRow base e sz v k xs := by
  obtain ⟨g1, g2⟩ := h
  refine ⟨g1, ?_⟩
  rcases g2 with g2 | ⟨g, cap, cur, hv, hg, hh, r⟩
  · exact Or.inl g2
  · exact Or.inr ⟨g, cap, cur, hv, hg, hk.at_ _ _ _ _ hh h1 h2 h3, r⟩
theorem RunRow.keep (h : RunRow w base E n d rows) (hk : KeepN w w') : RunRow w' base E n d rows := by
  obtain ⟨cur, hc, hs, hr⟩ := h
  refine ⟨cur, hk.at_ _ _ _ _ hc (by decide) (by decide) (by decide), hs, fun t ht => ?_⟩
  obtain ⟨a, c, h1, h2⟩ := hr t ht
  exact ⟨a, c, h1, own_keep h2 hk (by decide) (by decide) (by decide)⟩
theorem RunRow.cell (h : RunRow w base E n d rows) {t : Nat} (ht : t < n) : (∃ z, w.cell? ⟨E, t, none⟩ = some z) ∧ w.frozen? ⟨E, t, none⟩ = false := by
  obtain ⟨cur, hc, hs, _⟩ := h
  exact ⟨by rw [cell_of_row w E t _ _ _ hc]; exact ⟨_, Array.getElem?_eq_getElem (by omega)⟩, frozen_of_row w E t cur _ hc⟩
theorem RunRow.put (h : RunRow w base E n d rows) (hd : d < n) {a : Option Addr} {c m : Nat} (ho : w.ownsRow base 3 1 (.slice a m c) m (shI.flat (rows d))) (hm : (rows d).length = m) : RunRow (w.setCell ⟨E, d, none⟩ (.slice a m c)) base E n (d + 1) rows := by
  obtain ⟨cur, hc, hs, hr⟩ := h
  have hne : ∀ (v : Value) (k : Nat) (xs : List Value), w.ownsRow base 3 1 v k xs → ∀ g, v.ownBlock = some g → g ≠ E := fun v k xs h => own_ne (t := 29) h hc (by decide)
  refine ⟨_, heap_setCell_same w E d cur _ _ hc, by simpa using hs, fun t ht => ?_⟩
  by_cases e : t = d
  · subst e
    rw [hm]
    exact ⟨a, c, by simp [Array.getElem?_setIfInBounds]; omega, own_set ho (hne _ _ _ ho) _⟩
  · obtain ⟨a', c', h1, h2⟩ := hr t (by omega)
    exact ⟨a', c', by rw [Array.getElem?_setIfInBounds_ne (by omega)]; exact h1, own_set h2 (hne _ _ _ h2) _⟩
theorem RunRow.at_ (h : RunRow w base E n n rows) (cap : Nat) : RunsAt w (some ⟨E, 0, none⟩) cap n rows := by
  obtain ⟨cur, hc, hs, hr⟩ := h
  refine ⟨(fun e => by cases e), fun t ht => ?_⟩
  obtain ⟨a, c, h1, h2⟩ := hr t ht
  exact ⟨E, 0, a, c, rfl, heap_lt hc, by rw [Nat.zero_add, cell_of_row w E t _ _ _ hc]; exact h1, Shape.At.own (S := shI) h2 rfl⟩
end
theorem nod_len {l : List Nat} {m : Nat} (hn : l.Pairwise fun x y => ¬ x = y) (hm : ∀ k ∈ l, k < m) : l.length ≤ m := by
  have e : l.length = ((List.range m).filter fun k => decide (k ∈ l)).length := len_same hn ((nod_range m).filter _) fun x => by
    rw [List.mem_filter, List.mem_range, decide_eq_true_eq]
    exact ⟨fun h => ⟨hm x h, h⟩, fun h => h.2⟩
  rw [e]
  have := List.length_filter_le (fun k => decide (k ∈ l)) (List.range m)
  simpa using this
/-- All that the calls in a tick ask of the state. -/
theorem tick_facts {l : List ThT} {c sl : Nat} (hok : OkT l c sl) {t : Nat} {s : StM} (h : TieM (thN l c sl) t s ((thN l c sl).stN t)) :
    (∀ k, (thN l c sl).come k = t → ¬ k ∈ s.q ∧ s.left k = (thN l c sl).work k ∧ s.ran k = 0) ∧ s.q.length + (cameN (thN l c sl) t l.length).length ≤ 64 ∧
    (∀ k ∈ (s.arr (thN l c sl) t).q, (thN l c sl).lev k < 32) ∧
    (∀ j, j < 32 → ((s.arr (thN l c sl) t).ready.filter fun k => decide ((thN l c sl).lev k = j)) = ((thN l c sl).atN t).q j) ∧
    (∀ k ∈ (thN l c sl).runN t, k ∈ (s.arr (thN l c sl) t).q ∧ 0 < (s.arr (thN l c sl) t).left k) ∧
    (∀ k ∈ (s.arr (thN l c sl) t).q, (s.arr (thN l c sl) t).left k ≤ 10000 ∧ (s.arr (thN l c sl) t).ran k ≤ 10000) ∧
    TieM (thN l c sl) (t + 1) (((s.arr (thN l c sl) t).did ((thN l c sl).runN t)).rot sl) ((thN l c sl).stN (t + 1)) := by
  have hi := inv_st hok.lev t
  have ha := h.arr hi
  have hat := at_at hok.lev t
  have hsl : 0 < (thN l c sl).sl := hok.s1
  refine ⟨fun k hk => h.new hi hk, ?_, fun k hk => hok.lev k (ha.mem k hk).1, fun j _ => ha.ready j, fun k hk => ?_, fun k hk => ⟨?_, ?_⟩, ha.did hsl _⟩
  · have h1 := nod_len ha.nod fun k hk => (ha.mem k hk).1
    have h2 := hok.len
    have e : (s.arr (thN l c sl) t).q = s.q ++ cameN (thN l c sl) t l.length := rfl
    rw [e, List.length_append] at h1
    exact Nat.le_trans h1 h2
  · obtain ⟨j, hj, hk'⟩ := mem_downN.1 (List.mem_of_mem_take hk)
    have e : k ∈ ((s.arr (thN l c sl) t).q.filter fun k => decide ((thN l c sl).lev k = j ∧ 0 < (s.arr (thN l c sl) t).left k)) := by rw [ha.q j]; exact hk'
    rw [List.mem_filter, decide_eq_true_eq] at e
    exact ⟨e.1, e.2.2⟩
  · have h1 := hi.sum k
    have h2 := hok.work k (ha.mem k hk).1
    have h3 : (s.arr (thN l c sl) t).left k = ((thN l c sl).stN t).left k := congrFun h.left k
    omega
  · have h1 : (s.arr (thN l c sl) t).ran k = ((thN l c sl).stN t).ran k % sl := h.ran k
    have h2 := Nat.mod_lt (((thN l c sl).stN t).ran k) hok.s1
    have h3 := hok.s2
    omega
/-- What is in memory while Run runs. -/
structure LpT (w wr : World) (E B n t : Nat) (l : List ThT) (c sl : Nat) : Prop where
  m : ∃ P s qv, MemN w wr B (thN l c sl) P s qv ∧ TieM (thN l c sl) t s ((thN l c sl).stN t)
  r : RunRow wr w.heap.size E n t (rowN (thN l c sl))
  lt : w.heap.size ≤ E
/-- A store into the rows' block. -/
theorem MemN.other {w0 w : World} {B : Nat} {T : ThN} {P : Nat → Nat} {s : StM} {qv : Value} (h : MemN w0 w B T P s qv) {E i : Nat} {cs : Array Value} {u : Value} (hE : w.heap[E]? = some (.cells cs 29 (0, 0))) (hw : w0.heap.size ≤ E) : MemN w0 (w.setCell ⟨E, i, none⟩ u) B T P s qv :=
  ⟨h.b.trans (Below.setCell (Below.refl _ _) hw _), h.hB, (Below.heap_setCell w _ _ B (cells_ne h.hp hE (by decide))).trans h.hp, own_set h.own (own_ne (t := 29) h.own hE (by decide)) _,
    fun k hk => ⟨(Below.heap_setCell w _ _ (P k) (cells_ne (h.thr k hk).1 hE (by decide))).trans (h.thr k hk).1, (h.thr k hk).2⟩, h.inj, h.len⟩
/-- The answer of a valid run. -/
def RunOut (w : World) (n : Nat) (rows : Nat → List Int) (e : Ending) (w' : World) : Prop :=
  ∃ E, e = .returned (.tuple #[.slice (some ⟨E, 0, none⟩) n n, .int .i64 0]) ∧ RunsAt w' (some ⟨E, 0, none⟩) n n rows ∧ Below w.heap.size w w'
set_option maxHeartbeats 2000000 in
set_option maxRecDepth 100000 in
theorem run_bad {ad : Option Addr} {cap n : Nat} {l : List ThT} (c sl tk : Int) (w : World) (HA : Hid (shT.At w ad cap l)) (hm : Hid (l.length = n)) (hn : n ≤ 9223372036854775807) (hx : Hid (wrongN c sl l = 2 ∨ wrongN c sl l = 0 ∧ ¬ (0 ≤ tk ∧ tk ≤ 2000))) :
    Calls Try.prog 8 #[.int .i64 c, .int .i64 sl, .slice ad n cap, .int .i64 tk] w fun e w' => e = .returned (.tuple #[.slice none 0 0, .int .i64 2]) ∧ Below w.heap.size w w' := by
  rcases hx.out with h | ⟨h, ht⟩
  · have H := Lib.hid h
    clear h
    go_enter Try.func8, Try.ntmps8
    go_wp2_with (first
      | (go_at_call 10; (with_reducible refine (wrong_W c sl _ HA hm hn 2 H).mono ?_); rintro e w1 ⟨rfl, hb⟩; have HB := Lib.hid hb; clear hb)
      | fail)
    refine bodyPost_ret (v := .tuple #[.slice none 0 0, .int .i64 2]) (by simp [results, Try.results8, go_sem]) rfl ?_
    exact ⟨rfl, HB.out⟩
  · have H := Lib.hid h
    have HT : Hid (decide (0 ≤ tk ∧ tk ≤ 2000) = false) := Lib.hid (decide_eq_false ht)
    clear h ht
    go_enter Try.func8, Try.ntmps8
    go_wp2_with (first
      | (go_at_call 10; (with_reducible refine (wrong_W c sl _ HA hm hn 0 H).mono ?_); rintro e w1 ⟨rfl, hb⟩; have HB := Lib.hid hb; clear hb)
      | (go_at_call 23; (with_reducible refine (within_C tk 0 2000 _ false HT).mono ?_); rintro e w2 ⟨rfl, rfl⟩)
      | fail)
    refine bodyPost_ret (v := .tuple #[.slice none 0 0, .int .i64 2]) (by simp [results, Try.results8, go_sem]) rfl ?_
    exact ⟨rfl, HB.out⟩
set_option maxHeartbeats 2000000 in
set_option maxRecDepth 100000 in
theorem run_ok {ad : Option Addr} {cap m : Nat} {l : List ThT} {c sl : Nat} (n : Nat) (w : World) (HA : Hid (shT.At w ad cap l)) (hm : Hid (l.length = m)) (hok : Hid (OkT l c sl)) (hn : n ≤ 2000) :
    Calls Try.prog 8 #[.int .i64 (c : Nat), .int .i64 (sl : Nat), .slice ad m cap, .int .i64 (n : Nat)] w (RunOut w n (rowN (thN l c sl))) := by
  obtain ⟨i0, hi, hz0, hz1, hz2⟩ := info_parts' info_ints
  have hm64 : m ≤ 64 := by rw [← hm.out]; exact hok.out.len
  have hb0 : i0.bytes * n ≤ 281474976710656 := by rw [hz2]; omega
  have hmx : n ≤ maxLen := by unfold maxLen; omega
  have H0 := Lib.hid (ok_wrong hok.out)
  have HT : Hid (decide (0 ≤ (n : Int) ∧ (n : Int) ≤ 2000) = true) := Lib.hid (decide_eq_true ⟨by omega, by omega⟩)
  go_enter Try.func8, Try.ntmps8
  go_upto_region 7 with (first
    | (go_at_call 10; (with_reducible refine (wrong_W (c : Nat) (sl : Nat) _ HA hm (by omega) 0 H0).mono ?_); rintro e w1 ⟨rfl, hb⟩; have HB1 := Lib.hid hb; clear hb)
    | (go_at_call 23; (with_reducible refine (within_C (n : Nat) 0 2000 _ true HT).mono ?_); rintro e w2 ⟨rfl, rfl⟩)
    | fail)
  have BA := below_alloc w1 (.cells #[.int .i64 (c : Nat), .int .i64 (sl : Nat), .slice none 0 0] 48)
  have hs1 := HB1.out.size
  have M0 : Hid (MemN w (w1.alloc (.cells #[.int .i64 (c : Nat), .int .i64 (sl : Nat), .slice none 0 0] 48)) w1.heap.size (thN l c sl) (fun _ => 0) ⟨[], (thN l c sl).work, fun _ => 0⟩ (.slice none 0 0)) :=
    Lib.hid ⟨pstep HB1.out BA, hs1, heap_alloc_new w1 _, World.ownsRow_nil _ _ _ _, (fun k hk => by cases hk), (fun i hi => by cases hi), Nat.zero_le _⟩
  have hs2 : w.heap.size ≤ (w1.alloc (.cells #[.int .i64 (c : Nat), .int .i64 (sl : Nat), .slice none 0 0] 48)).heap.size := (pstep HB1.out BA).size
  clear BA
  generalize w1.alloc (.cells #[.int .i64 (c : Nat), .int .i64 (sl : Nat), .slice none 0 0] 48) = w2 at M0 hs2 ⊢
  generalize w1.heap.size = B at M0 ⊢
  go_wp2_with (first
    | (at_make; refine wpList_make_full _ rfl _ _ 23 rfl w.heap.size 29 i0 _ 1 Try.underlying23 hi hz0 hz1 .i64 .i64 _ _ n rfl rfl rfl rfl hb0 hmx hs2 ?_; intro w3 hown hgrow)
    | fail)
  have L0 : LpT w w3 w2.heap.size B n 0 l c sl := by
    have hb3 : Below w2.heap.size w2 w3 := (Below.refl w2.heap.size w2).grown hgrow (Nat.le_refl _) (fun k hk => by cases hk)
    suffices h : RunRow w3 w.heap.size w2.heap.size n 0 (rowN (thN l c sl)) ∧ w.heap.size ≤ w2.heap.size from ⟨⟨_, _, _, M0.out.step hb3, tie_newM _⟩, h.1, h.2⟩
    obtain ⟨_, h2⟩ := hown
    rcases h2 with ⟨h2, _⟩ | ⟨g, cp, cur, e, _, hc, _, _, hsz, _⟩
    · cases h2
    · simp only [Value.slice.injEq, Option.some.injEq, Addr.mk.injEq, and_true, true_and] at e
      obtain ⟨rfl, rfl⟩ := e
      exact ⟨⟨cur, hc, by simpa using hsz, fun t ht => by omega⟩, hs2⟩
  have H2 := Lib.hid L0
  clear L0 hown hgrow M0 hs2
  generalize w2.heap.size = E at H2 ⊢
  go_loopw [30] (fun i wr => ∃ t : Nat, t ≤ n ∧ i = .int .i64 t ∧ Hid (LpT w wr E B n t l c sl)) (fun i _ => n - (intOf i).toNat)
  case atStart => exact ⟨0, Nat.zero_le _, rfl, H2⟩
  case round =>
    clear H2
    obtain ⟨t, ht, rfl, HL⟩ := hrel
    by_cases hlt : t < n
    · obtain ⟨P, s, qv, hM, hT⟩ := HL.out.m
      have HM := Lib.hid hM
      have HR := Lib.hid HL.out.r
      obtain ⟨f1, f2, f3, f4, f5, f6, f7⟩ := tick_facts hok.out hT
      have F1 := Lib.hid f1
      have F2 : Hid (s.q.length + (cameN (thN l c sl) t m).length ≤ 64) := Lib.hid (by rw [← hm.out]; exact f2)
      have F3 := Lib.hid f3
      have F4 := Lib.hid f4
      have F5 := Lib.hid f5
      have F6 := Lib.hid f6
      have F7 := Lib.hid f7
      have FT : Hid (∀ (k : Nat) (x : ThT), l[k]? = some x → x.c = (((thN l c sl).come k : Nat) : Int) ∧ x.l = (((thN l c sl).lev k : Nat) : Int) ∧ x.w = (((thN l c sl).work k : Nat) : Int)) := Lib.hid fun k x hx => ⟨(hok.out.at' hx).1, (hok.out.at' hx).2.1, (hok.out.at' hx).2.2.1⟩
      have hc1 : 1 ≤ (thN l c sl).c := hok.out.c1
      have hc8 : (thN l c sl).c ≤ 8 := hok.out.c8
      have FN := Lib.hid (run_nod hok.out.lev t)
      have FR : Hid ((downN ((thN l c sl).atN t).q 32).take (thN l c sl).c = (thN l c sl).runN t) := Lib.hid rfl
      have FA : Hid ((⟨s.q ++ cameN (thN l c sl) t m, s.left, s.ran⟩ : StM) = s.arr (thN l c sl) t) := Lib.hid (by rw [← hm.out]; rfl)
      have HLT := Lib.hid HL.out.lt
      have FE : Hid ((thN l c sl).sl = sl) := Lib.hid rfl
      have hlen : (rowN (thN l c sl) t).length = ((thN l c sl).runN t).length := rowN_len _ _
      obtain ⟨T, hTT⟩ : ∃ T, thN l c sl = T := ⟨_, rfl⟩
      obtain ⟨R, hRR⟩ : ∃ R, T.runN t = R := ⟨_, rfl⟩
      have HTT := Lib.hid hTT
      have HRR := Lib.hid hRR
      have HLEN := Lib.hid hlen
      clear hM hT f1 f2 f3 f4 f5 f6 f7 hlen HL
      rw [hTT] at HM HR F1 F2 F3 F4 F5 F6 F7 FT hc1 hc8 FN FR FA FE HLEN
      rw [hRR] at F5 F7 FN FR HLEN
      clear hTT hRR
      go_upto_region 12 with (first
        | (go_at_call 24; (with_reducible refine (arrive_W t HM HA hm hm64 FT F1 F2).mono ?_); rintro e w4 ⟨rfl, ⟨P4, qv4, hM4⟩, hK4⟩; rw [FA.out] at hM4; have M4 := Lib.hid hM4; have R4 := Lib.hid (HR.out.keep hK4); clear hM4 hK4)
        | fail)
      obtain ⟨s4, hs4⟩ : ∃ s4, s.arr T t = s4 := ⟨_, rfl⟩
      rw [hs4] at M4 F3 F4 F5 F6 F7
      go_upto_region 13 with (first
        | (go_at_call 25; (with_reducible refine (run_W M4 F3 F4 hc1 hc8 FR FN F5 F6).mono ?_); rintro e w5 ⟨⟨ra, rc, rfl, hO5⟩, hM5, hK5⟩; have M5 := Lib.hid hM5; have R5 := Lib.hid (R4.out.keep hK5); have O5 := Lib.hid (own_base (base' := w.heap.size) hO5 M4.out.b.size); obtain ⟨⟨z5, cz5⟩, fz5⟩ := R5.out.cell hlt; have hE5 := R5.out.lt; clear hM5 hK5 hO5)
        | fail)
      have M6 : Hid (MemN w (w5.setCell ⟨E, t, none⟩ (.slice ra R.length rc)) B T P4 (s4.did R) qv4) := Lib.hid (by
        obtain ⟨cur, hc, _⟩ := R5.out
        exact M5.out.other hc HLT.out)
      have R6 : Hid (RunRow (w5.setCell ⟨E, t, none⟩ (.slice ra R.length rc)) w.heap.size E n (t + 1) (rowN T)) := Lib.hid (R5.out.put hlt (by
        have := O5.out
        rw [← HRR.out] at this ⊢
        exact this) HLEN.out)
      clear cz5 fz5 hE5
      generalize w5.setCell ⟨E, t, none⟩ (.slice ra R.length rc) = w6 at M6 R6 ⊢
      go_wp2_with (first
        | (go_at_call 26; (with_reducible refine (rotate_W M6).mono ?_); rintro e w7 ⟨rfl, ⟨qv7, hM7⟩, hK7⟩; have M7 := Lib.hid hM7; have R7 := Lib.hid (R6.out.keep hK7); clear hM7 hK7)
        | fail)
      go_roundw
      case rel => exact ⟨t + 1, by omega, by go_num, Lib.hid ⟨⟨P4, _, qv7, by rw [HTT.out]; exact M7.out, by rw [HTT.out, FE.out]; exact F7.out⟩, by rw [HTT.out]; exact R7.out, HLT.out⟩⟩
      case measure => simp [intOf]; omega
    · obtain rfl : t = n := by omega
      obtain ⟨P, s, qv, hM, hT⟩ := HL.out.m
      have HR := Lib.hid HL.out.r
      have HB := Lib.hid hM.b
      clear hM hT HL hlt ht
      go_wp2_with fail
      refine bodyPost_ret (v := .tuple #[.slice (some ⟨E, 0, none⟩) t t, .int .i64 0]) (by simp [results, Try.results8, go_sem]) rfl ?_
      exact ⟨E, rfl, HR.out.at_ t, HB.out⟩
end Go.Proofs.Ytningajaimbncaa
