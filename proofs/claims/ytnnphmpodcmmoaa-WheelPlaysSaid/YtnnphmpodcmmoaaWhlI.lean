/- Package wheel: the walk of Play. -/
import Derived.Test.YtnnphmpodcmmoaaWhlH
import Derived.Test.YtnnphmpodcmmoaaErr
import Derived.Deep.WholeRow
namespace Go.Proofs.Ytnnphmpodcmmoaa
open Go.RowKit Go.Maps

/-- What the zero wheel's cells are. -/
structure ZOk (Z : Array Value) : Prop where
  sz : Z.size = 514
  c0 : Z[0]? = some (.int .i64 0)
  sl : ∀ j, j < 511 → Z[1 + j]? = some (.slice none 0 0)
  fi : Z[513]? = some (.slice none 0 0)
  one : ∀ v ∈ Z, v.oneCell' = true
theorem zW_ok : ZOk zW := by
  have h1 : zW = (#[Value.int .i64 0] ++ Array.replicate 511 (Value.slice none 0 0)) ++ #[Value.map none, Value.slice none 0 0] := rfl
  generalize zW = Z at h1
  obtain ⟨A, hA⟩ : ∃ A, Array.replicate 511 (Value.slice none 0 0) = A := ⟨_, rfl⟩
  have hs : A.size = 511 := by rw [← hA, Array.size_replicate]
  have ha : ∀ j, j < 511 → A[j]? = some (.slice none 0 0) := fun j hj => by rw [← hA, Array.getElem?_replicate, if_pos hj]
  have hm : ∀ v ∈ A, v.oneCell' = true := fun v hv => by
    rw [← hA, Array.mem_replicate] at hv
    rw [hv.2]; rfl
  rw [hA] at h1
  clear hA
  subst h1
  refine ⟨by simp [hs], ?_, fun j hj => ?_, ?_, fun v hv => ?_⟩
  · rw [Array.getElem?_append_left (by simp; omega), Array.getElem?_append_left (by simp)]
    rfl
  · rw [Array.getElem?_append_left (by simp [hs]; omega), Array.getElem?_append_right (by simp)]
    have e : 1 + j - (#[Value.int .i64 0] : Array Value).size = j := by simp
    rw [e]
    exact ha j hj
  · rw [Array.getElem?_append_right (by simp [hs])]
    have e : 513 - ((#[Value.int .i64 0] : Array Value) ++ A).size = 1 := by simp [hs]
    rw [e]
    rfl
  · simp only [Array.mem_append] at hv
    rcases hv with (hv | hv) | hv
    · simp at hv; subst hv; rfl
    · exact hm v hv
    · simp at hv; rcases hv with rfl | rfl <;> rfl
theorem set_all {Z : Array Value} (hZ : ZOk Z) (m : Nat) : (Z.setIfInBounds 512 (.map (some m))).all (·.oneCell') = true := by
  rw [Array.all_eq_true]
  intro i hi
  have hi2 : (Z.setIfInBounds 512 (.map (some m)))[i]? = some (Z.setIfInBounds 512 (.map (some m)))[i] := Array.getElem?_eq_getElem hi
  have hs : i < Z.size := by rw [Array.size_setIfInBounds] at hi; exact hi
  generalize (Z.setIfInBounds 512 (.map (some m)))[i] = v at hi2 ⊢
  by_cases e : i = 512
  · subst e
    rw [Array.getElem?_setIfInBounds, if_pos rfl, if_pos hs] at hi2
    cases hi2
    rfl
  · rw [Array.getElem?_setIfInBounds_ne (fun e' => e e'.symm), Array.getElem?_eq_getElem hs] at hi2
    cases hi2
    exact hZ.one _ (Array.getElem_mem hs)
/-- A wheel that was just made. -/
theorem whr_new {w w2 : World} {B m : Nat} {Z R : Array Value} (hZ : ZOk Z) (hR : Z.setIfInBounds 512 (.map (some m)) = R) (hb : Below w.heap.size w w2) (hB : w.heap.size ≤ B) (hm : w.heap.size ≤ m) (hp : w2.heap[B]? = some (.cells R 46 (0, 0))) (hmp : MapW w2 m 0 []) : WhS w w2 B m 0 newT := by
  have hz := hZ.sz
  have hge : ∀ i, i ≠ 512 → R[i]? = Z[i]? := fun i hi => by rw [← hR]; exact Array.getElem?_setIfInBounds_ne (fun e => hi e.symm)
  have hsl : ∀ j, j < 511 → R[1 + j]? = some (.slice none 0 0) := fun j hj => by rw [hge _ (by omega), hZ.sl j hj]
  refine ⟨R, hb, hB, hm, hp, by rw [← hR, Array.size_setIfInBounds, hz], by rw [hge 0 (by decide), hZ.c0]; rfl, ?_, hmp, ⟨.slice none 0 0, by rw [hge 513 (by decide), hZ.fi], World.ownsRow_nil _ _ _ _⟩, fun j hj => ⟨.slice none 0 0, hsl j hj, World.ownsRow_nil _ _ _ _⟩, fun a c v u g ha _ hva _ hg1 _ => ?_⟩
  · rw [← hR, Array.getElem?_setIfInBounds, if_pos rfl, if_pos (by omega)]
  · rw [hsl a ha] at hva
    cases hva
    cases hg1
theorem WhR.other {w0 w : World} {B m L now : Nat} {set : List FiT} {sl : Nat → List Int} {fd : List FiT} {R : Array Value} (h : WhR w0 w B m L now set sl fd R) {E i : Nat} {cs : Array Value} {u : Value} (hE : w.heap[E]? = some (.cells cs 25 (0, 0))) (hw : w0.heap.size ≤ E) : WhR w0 (w.setCell ⟨E, i, none⟩ u) B m L now set sl fd R := by
  have hBE : ¬ B = E := by
    rintro rfl
    have := h.hp
    rw [hE] at this
    simp only [Option.some.injEq, Obj.cells.injEq] at this
    exact absurd this.2.1 (by decide)
  refine ⟨h.b.trans (Below.setCell (Below.refl _ _) hw _), h.hB, h.hm, (Below.heap_setCell w ⟨E, i, none⟩ u B hBE).trans h.hp, h.sz, h.c0, h.cm, h.mp.same (Below.heap_setCell w ⟨E, i, none⟩ u m (fun e => mapW_ne h.mp hE e.symm)), ?_, fun k hk => ?_, h.ap⟩
  · obtain ⟨v, hv1, hv2⟩ := h.fi
    exact ⟨v, hv1, own_set hv2 (own_ne hv2 hE (by decide)) _⟩
  · obtain ⟨v, hv1, hv2⟩ := h.sl k hk
    exact ⟨v, hv1, own_set hv2 (own_ne hv2 hE (by decide)) _⟩
theorem check_S {w0 w : World} {B m L : Nat} {s : StT} (H : Hid (WhS w0 w B m L s)) (k i n : Int) (hwf : WfI i) (x : Int) (hx : Hid (errT s ⟨k, i, n⟩ = x)) :
    Calls Try.prog 17 #[.pointer (some ⟨B, 0, none⟩), .agg #[.int .i64 k, .int .i64 i, .int .i64 n]] w fun e w' => e = .returned (.int .i64 x) ∧ Below w.heap.size w w' := by
  obtain ⟨R, hR⟩ := H.out
  exact check_W (Lib.hid hR) k i n hwf x hx
theorem bnd_run : ∀ {ops : List TmT} {s : StT} {K : Nat}, BndT s K → (∀ o ∈ ops, WfI o.i) → BndT (runT s ops) (K + ops.length)
  | [], _, _, h, _ => h
  | o :: r, s, K, h, hw => by
    have := bnd_run (ops := r) (bnd_step h (hw o List.mem_cons_self)) (fun x hx => hw x (List.mem_cons_of_mem _ hx))
    rw [runT, List.length_cons]
    exact this.more (by omega)
/-- What is in memory while Play runs. -/
structure LpP (w wx : World) (E B m n K : Nat) (es : List Int) (s : StT) : Prop where
  e : ErrRow wx E n es
  s : WhS w wx B m K s
  lt : w.heap.size ≤ E
section
variable {w wx wy : World} {E B m n K : Nat} {es : List Int} {s s' : StT}
theorem LpP.b (h : LpP w wx E B m n K es s) : Below w.heap.size w wx := by obtain ⟨R, h⟩ := h.s; exact h.b
theorem LpP.step (h : LpP w wx E B m n K es s) (hb : Below wx.heap.size wx wy) : LpP w wy E B m n K es s := ⟨h.e.same (hb.block _ h.e.lt), h.s.step hb, h.lt⟩
theorem LpP.turn {K' : Nat} (h : LpP w wx E B m n K es s) (hs : WhS w wy B m K' s') (hk : KeepT wx wy) : LpP w wy E B m n K' es s' := by
  obtain ⟨cur, hc, r⟩ := h.e
  exact ⟨⟨cur, hk.at_ _ _ _ _ hc (by decide) (by decide) (by decide), r⟩, hs, h.lt⟩
theorem LpP.setE (h : LpP w wx E B m n K es s) {k : Nat} (hk : es.length = k) (hkn : k < n) (x : Int) : LpP w (wx.setCell ⟨E, k, none⟩ (.int .i64 x)) E B m n K (es ++ [x]) s := by
  have he := h.e
  obtain ⟨cur, hc, _⟩ := he
  obtain ⟨R, hR⟩ := h.s
  exact ⟨h.e.put hk hkn x, ⟨R, hR.other hc h.lt⟩, h.lt⟩
end
def BadK (e : Ending) : Prop := e = .returned (.tuple #[.slice none 0 0, .slice none 0 0, .int .i64 0, .int .i64 2])
set_option maxHeartbeats 1000000 in
set_option maxRecDepth 100000 in
theorem play_bad (ad : Option Addr) (cap n : Nat) (w : World) (h : 400 < n) (hn : n ≤ 9223372036854775807) :
    Calls Try.prog 9 #[.slice ad n cap] w fun e w' => BadK e ∧ w = w' := by
  have hd : decide ((400 : Int) < (n : Int)) = true := decide_eq_true (by omega)
  go_enter Try.func9, Try.ntmps9
  go_wp2_with fail
  refine bodyPost_ret (v := .tuple #[.slice none 0 0, .slice none 0 0, .int .i64 0, .int .i64 2]) (by simp [results, Try.results9, go_sem]) rfl ?_
  exact ⟨rfl, rfl⟩
def PlayOut (w : World) (n : Nat) (es : List Int) (s : StT) (e : Ending) (w' : World) : Prop :=
  ∃ E fa fc, e = .returned (.tuple #[.slice (some ⟨E, 0, none⟩) n n, .slice fa s.fired.length fc, .int .i64 (s.set.length : Int), .int .i64 0]) ∧ shI.At w' (some ⟨E, 0, none⟩) n es ∧ shF.At w' fa fc s.fired ∧ Below w.heap.size w w'
/-- The same, and that what fired lies in a row of the call's own. -/
def PlayOwn (w : World) (n : Nat) (es : List Int) (s : StT) (e : Ending) (w' : World) : Prop :=
  ∃ E fa fc, e = .returned (.tuple #[.slice (some ⟨E, 0, none⟩) n n, .slice fa s.fired.length fc, .int .i64 (s.set.length : Int), .int .i64 0]) ∧ shI.At w' (some ⟨E, 0, none⟩) n es ∧ w'.ownsRow w.heap.size 31 2 (.slice fa s.fired.length fc) s.fired.length (shF.flat s.fired) ∧ Below w.heap.size w w'
set_option maxHeartbeats 4000000 in
set_option maxRecDepth 100000 in
theorem play_core (Z : Array Value) (hz : ∀ w, (zeroValue 46).run Try.prog w = .ok (.agg Z) w) (hsz : (Try.prog.info? 46).map (·.size) = some 514) (HZ : Hid (Z.size = 514)) (HO : Hid (ZOk Z)) (hbl : ∀ b, Try.prog.built 46 [(2, .map (some b))] = some (Z.setIfInBounds 512 (.map (some b)))) {ad : Option Addr} {cap n : Nat} {ops : List TmT} (w : World) (HA : Hid (shT.At w ad cap ops)) (hm : Hid (ops.length = n)) (hn : n ≤ 400) (HW : Hid (∀ o ∈ ops, WfI o.i)) :
    Calls Try.prog 9 #[.slice ad n cap] w (PlayOwn w n (errsT newT ops) (runT newT ops)) := by
  obtain ⟨i0, hi, hz0, hz1, hz2⟩ := info_parts info_errno
  have hmk := @run_makeMap Try.prog
  have hd : decide ((400 : Int) < (n : Int)) = false := decide_eq_false (by omega)
  have hb0 : i0.bytes * n ≤ 281474976710656 := by rw [hz2]; omega
  have hmx : n ≤ maxLen := by unfold maxLen; omega
  obtain ⟨R0, hR0⟩ : ∃ R0, Z.setIfInBounds 512 (.map (some w.heap.size)) = R0 := ⟨_, rfl⟩
  have HR0 := Lib.hid hR0
  have HRS : Hid (R0.size = 514) := Lib.hid (by rw [← hR0, Array.size_setIfInBounds, HZ.out])
  have HBL : Hid (Try.prog.built 46 [(2, .map (some w.heap.size))] = some R0) := Lib.hid (by rw [← hR0]; exact hbl _)
  have HAL : Hid (R0.all (·.oneCell') = true) := Lib.hid (by rw [← hR0]; exact set_all HO.out _)
  have HSZ := Lib.hid hsz
  have HZ1 := Lib.hid (heap_alloc_new (w.alloc (.map #[] 0)) (.cells Z 46))
  simp only [World.size_alloc] at HZ1
  clear hbl hsz hR0
  go_enter Try.func9, Try.ntmps9
  go_upto_region 4 with (first
    | (refine wpList_build_row rfl 46 _ rfl R0 ?_ ?_; focus (simp only [List.map_toArray, List.map_cons, List.map_nil]; exact HBL.out))
    | (refine wpList_store_row rfl 46 _ _ rfl (w.heap.size + 1) R0 rfl rfl 46 Z HZ1 (by rw [HSZ.out, HRS.out]) (by rw [HRS.out, HZ.out]) HAL.out ?_; intro w2 hw2)
    | fail)
  have B2 : Below w.heap.size w w2 := (below_two w _ _).trans (hw2.below _ (by omega))
  have S2 : WhS w w2 (w.heap.size + 1) w.heap.size 0 newT := whr_new HO.out HR0.out B2 (by omega) (Nat.le_refl _) hw2.put (((map_newW w).step (below_alloc _ _)).same (hw2.other _ (by omega)))
  have hs2 : w.heap.size ≤ w2.heap.size := B2.size
  have HS2 := Lib.hid S2
  generalize w.heap.size + 1 = B at HS2 ⊢
  obtain ⟨m0, hm0⟩ : ∃ m0, w.heap.size = m0 := ⟨_, rfl⟩
  have HS3 : Hid (WhS w w2 B m0 0 newT) := Lib.hid (hm0 ▸ HS2.out)
  clear hw2 S2 B2 HZ1 HBL HR0 HRS HAL HS2 hm0
  go_upto_region 5 with (first
    | (at_make; refine wpList_make_full _ rfl _ _ 23 rfl w.heap.size 25 i0 _ 1 Try.underlying23 hi hz0 hz1 .i64 .i64 _ _ n rfl rfl rfl rfl hb0 hmx hs2 ?_; intro w3 hown hgrow)
    | fail)
  have L0 : LpP w w3 w2.heap.size B m0 n 0 [] newT := by
    have hb3 : Below w2.heap.size w2 w3 := (Below.refl w2.heap.size w2).grown hgrow (Nat.le_refl _) (fun k hk => by cases hk)
    refine ⟨?_, HS3.out.step hb3, hs2⟩
    obtain ⟨_, h2⟩ := hown
    rcases h2 with ⟨h2, _⟩ | ⟨g, cp, cur, e, _, hc, _, _, hsz, _⟩
    · cases h2
    · simp only [Value.slice.injEq, Option.some.injEq, Addr.mk.injEq, and_true, true_and] at e
      obtain ⟨rfl, rfl⟩ := e
      exact ⟨cur, hc, by simpa using hsz, fun j x hj => by simp at hj⟩
  have H2 := Lib.hid L0
  clear L0 hown hgrow HS3 hmk hs2
  go_wp2_with fail
  generalize w2.heap.size = E at H2 ⊢
  go_loopw [20] (fun i wr => ∃ k : Nat, k ≤ n ∧ i = .int .i64 k ∧ Hid (LpP w wr E B m0 n k (errsT newT (ops.take k)) (runT newT (ops.take k)))) (fun i _ => n - (intOf i).toNat)
  case atStart => exact ⟨0, Nat.zero_le _, rfl, H2⟩
  case round =>
    clear H2
    obtain ⟨k, hk, rfl, HL⟩ := hrel
    have hlen : (errsT newT (ops.take k)).length = k := by rw [errs_len, List.length_take, hm.out]; omega
    have hgood := good_run (ops := ops.take k) good_new
    have hbnd : BndT (runT newT (ops.take k)) k := by
      have := bnd_run (ops := ops.take k) bnd_new (fun o ho => HW.out o (List.mem_of_mem_take ho))
      rw [List.length_take, hm.out, Nat.min_eq_left hk, Nat.zero_add] at this
      exact this
    have HG := Lib.hid hgood
    have HBD := Lib.hid hbnd
    have HLEN := Lib.hid hlen
    clear hgood hbnd hlen
    by_cases hlt : k < n
    · obtain ⟨o, ho⟩ : ∃ o, ops[k]? = some o := ⟨ops[k]'(by rw [hm.out]; exact hlt), List.getElem?_eq_getElem _⟩
      have hwf := HW.out o (List.mem_of_getElem? ho)
      have HNE := Lib.hid (errs_next ho newT)
      have HNR := Lib.hid (run_next ho newT)
      obtain ⟨b, off, rfl, hb, e0, e1, e2⟩ := at_tm HA.out ho
      have g0 := (HL.out.b.cell (p := ⟨b, off + k * 3, none⟩) hb).trans e0
      have g1 := (HL.out.b.cell (p := ⟨b, off + k * 3 + 1, none⟩) hb).trans e1
      have g2 := (HL.out.b.cell (p := ⟨b, off + k * 3 + 2, none⟩) hb).trans e2
      have hbr : b < wr.heap.size := Nat.lt_of_lt_of_le hb HL.out.b.size
      obtain ⟨kd, id, tk⟩ := o
      simp only at g0 g1 g2 hwf
      obtain ⟨st, hst⟩ : ∃ st, runT newT (ops.take k) = st := ⟨_, rfl⟩
      obtain ⟨es, hes⟩ : ∃ es, errsT newT (ops.take k) = es := ⟨_, rfl⟩
      rw [hst] at HL HG HBD HNE HNR
      rw [hes] at HL HLEN HNE
      obtain ⟨x, hx⟩ : ∃ x, errT st ⟨kd, id, tk⟩ = x := ⟨_, rfl⟩
      have HX := Lib.hid hx
      have HWF := Lib.hid hwf
      have LA := Lib.hid (HL.out.step (below_alloc wr (.cells #[.int .i64 kd, .int .i64 id, .int .i64 tk] 36)))
      have OA := Lib.hid (heap_alloc_new wr (.cells #[.int .i64 kd, .int .i64 id, .int .i64 tk] 36))
      have SA := Lib.hid LA.out.s
      clear e0 e1 e2 ho hst hes hx hwf
      go_upto_region 9 with (first
        | (go_at_call 17; (with_reducible refine (check_S SA kd id tk HWF.out x HX).mono ?_); rintro e w4 ⟨rfl, hb4⟩; have L4 := Lib.hid (LA.out.step hb4); have O4 := Lib.hid (heap_step OA.out hb4); obtain ⟨⟨z4, cz4⟩, fz4⟩ := L4.out.e.cell hlt; have hE4 := L4.out.e.lt; clear hb4)
        | fail)
      have L5 := Lib.hid (L4.out.setE HLEN.out hlt x)
      have O5 : Hid ((w4.setCell ⟨E, k, none⟩ (.int .i64 x)).heap[wr.heap.size]? = some (.cells #[.int .i64 kd, .int .i64 id, .int .i64 tk] 36 (0, 0))) := Lib.hid ((Below.heap_setCell w4 ⟨E, k, none⟩ (.int .i64 x) wr.heap.size (fun e => by have := HL.out.e.lt; simp only at e; omega)).trans O4.out)
      have HNE2 : Hid (errsT newT (ops.take (k + 1)) = es ++ [x]) := Lib.hid (by rw [HNE.out, HX.out])
      generalize w4.setCell ⟨E, k, none⟩ (.int .i64 x) = w5 at L5 O5 ⊢
      have hxe : (es ++ [x])[k]? = some x := by rw [List.getElem?_append_right (by rw [HLEN.out]; exact Nat.le_refl _), HLEN.out, Nat.sub_self]; rfl
      have cx := L5.out.e.get hxe
      have hE5 := L5.out.e.lt
      obtain ⟨t0, t1, t2⟩ := trio_at O5.out
      have hO5 := heap_lt O5.out
      have S5 := Lib.hid L5.out.s
      clear hxe cz4 fz4 hE4 SA OA LA L4 O4 HNE
      by_cases hx0 : x = 0
      · subst hx0
        have HD : Hid (stepT st ⟨kd, id, tk⟩ = doT st ⟨kd, id, tk⟩) := Lib.hid (by unfold stepT; rw [if_pos HX.out])
        go_wp2_with (first
          | (go_at_call 18; (with_reducible refine (perform_S S5 HG HBD (by omega) (by omega) kd id tk HWF.out HX).mono ?_); rintro e w6 ⟨rfl, h6, k6⟩; have L6 := Lib.hid (L5.out.turn h6 k6); clear h6 k6)
          | fail)
        go_roundw
        case rel => exact ⟨k + 1, by omega, by go_num, Lib.hid (by rw [HNE2.out, HNR.out, HD.out]; exact L6.out)⟩
        case measure => simp [intOf]; omega
      · have hxb : (x == 0) = false := by simpa using hx0
        have HD : Hid (stepT st ⟨kd, id, tk⟩ = st) := Lib.hid (by unfold stepT; rw [if_neg (by rw [HX.out]; exact hx0)])
        go_wp2_with fail
        go_roundw
        case rel => exact ⟨k + 1, by omega, by go_num, Lib.hid (by rw [HNE2.out, HNR.out, HD.out]; exact ⟨L5.out.e, L5.out.s.more (Nat.le_succ _), L5.out.lt⟩)⟩
        case measure => simp [intOf]; omega
    · obtain rfl : k = n := by omega
      have e : ops.take k = ops := by rw [← hm.out, List.take_length]
      rw [e] at HL
      obtain ⟨R, hR⟩ := HL.out.s
      obtain ⟨D, o1, T1⟩ := hR.mp
      obtain ⟨fv, hfv, fown⟩ := hR.fi
      obtain ⟨fa, fc, rfl, _, _, _, _⟩ := own_shape fown
      obtain ⟨c0, cm, hB, fz⟩ := hR.read
      have cf := hR.cell hfv
      have hlenm : ∀ (q : Nat) (ty : TypeId), (Builtin.len_ #[34] ty #[.map (some m0)]).run Try.prog (wr.drewN q) = .ok (.int .i64 ((runT newT ops).set.length : Int)) (wr.drewN q) := fun q ty => by
        have := (own_sameM (w' := wr.drewN q) o1 rfl).len Try.underlying34 ty
        rw [T1.sz] at this
        exact this
      have HFO := Lib.hid fown
      have HE := Lib.hid (err_at HL.out.e k)
      have HB := Lib.hid HL.out.b
      clear hR o1 T1 D hfv fown hlt hk HL
      go_wp2_with fail
      go_quiet (fail)
      go_wp2_with fail
      refine bodyPost_ret (v := .tuple #[.slice (some ⟨E, 0, none⟩) k k, .slice fa (runT newT ops).fired.length fc, .int .i64 ((runT newT ops).set.length : Int), .int .i64 0]) (by simp [results, Try.results9, go_sem]) rfl ?_
      have hd := fun q => below_drewN' wr q
      exact ⟨E, fa, fc, rfl, HE.out.step (hd _), own_step HFO.out (hd _), pstep HB.out (hd _)⟩
theorem play_own {ad : Option Addr} {cap n : Nat} {ops : List TmT} (w : World) (HA : Hid (shT.At w ad cap ops)) (hm : Hid (ops.length = n)) (hn : n ≤ 400) (HW : Hid (∀ o ∈ ops, WfI o.i)) :
    Calls Try.prog 9 #[.slice ad n cap] w (PlayOwn w n (errsT newT ops) (runT newT ops)) :=
  play_core zW (zero_of_info info_wheel).1 (zero_of_info info_wheel).2 (Lib.hid zW_ok.sz) (Lib.hid zW_ok) built_wheel w HA hm hn HW
theorem play_ok {ad : Option Addr} {cap n : Nat} {ops : List TmT} (w : World) (HA : Hid (shT.At w ad cap ops)) (hm : Hid (ops.length = n)) (hn : n ≤ 400) (HW : Hid (∀ o ∈ ops, WfI o.i)) :
    Calls Try.prog 9 #[.slice ad n cap] w (PlayOut w n (errsT newT ops) (runT newT ops)) :=
  (play_own w HA hm hn HW).mono fun _ _ ⟨E, fa, fc, h0, h1, h2, h3⟩ => ⟨E, fa, fc, h0, h1, Shape.At.own (S := shF) h2 rfl, h3⟩
end Go.Proofs.Ytnnphmpodcmmoaa
