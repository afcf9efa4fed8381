/- slices.DeleteFunc at pointers to threads, whatever the question: a row of the call's own, nil too. -/
import Derived.Test.YtningajaimbncaaCorF
import Derived.Lib.SliceRun
namespace Go.Proofs.Ytningajaimbncaa
open Go.RowKit

theorem setCells_heap {g : Nat} {t : TypeId} : ∀ (vs : List Value) (o : Nat) (w : World) (cur : Array Value), w.heap[g]? = some (.cells cur t (0, 0)) →
    (∃ cur' : Array Value, (w.setCells g o vs).heap[g]? = some (.cells cur' t (0, 0)) ∧ cur'.size = cur.size ∧ ∀ j, j < o → cur'[j]? = cur[j]?) ∧ w.grownBy (w.setCells g o vs) (some g)
  | [], o, w, cur, h => ⟨⟨cur, h, rfl, fun _ _ => rfl⟩, srt_grown _ _⟩
  | v :: vs, o, w, cur, h => by
    obtain ⟨⟨cur', h1, h2, h3⟩, h4⟩ := setCells_heap vs (o + 1) (w.setCell ⟨g, o, none⟩ v) _ (heap_setCell_same w g o cur _ v h)
    refine ⟨⟨cur', h1, by rw [h2]; simp, fun j hj => ?_⟩, ?_⟩
    · rw [h3 j (by omega), Array.getElem?_setIfInBounds_ne (by omega)]
    · exact ⟨h4.os, h4.tape, h4.output, Nat.le_trans (by simp) h4.size, fun k hk hne => (h4.block k (by simpa using hk) hne).trans (Below.heap_setCell w ⟨g, o, none⟩ v k (fun e => hne (by simp only at e; rw [e])))⟩
/-- What a question says of each thread, whatever has become of the row. -/
def Asks (g : Nat) (lb : Array Value) (P : Nat → Nat) (q : List Nat) (p : Nat → Bool) (w : World) (r : Option Nat) : Prop :=
  ∀ k, k ∈ q → ∀ W, w.grownBy W r → Calls Try.prog g (#[.pointer (some ⟨P k, 0, none⟩)] ++ lb) W fun e w' => e = .returned (.bool (p k)) ∧ ∃ j, w' = W.drewN j
theorem grown_drewN (w : World) (r : Option Nat) (j : Nat) : w.grownBy (w.drewN j) r := below_row (below_drewN (Below.refl _ _) j) r
theorem grown_trans {w w1 w2 : World} {r : Option Nat} (h : w.grownBy w1 r) (h' : w1.grownBy w2 r) : w.grownBy w2 r :=
  ⟨h'.os.trans h.os, h'.tape.trans h.tape, h'.output.trans h.output, Nat.le_trans h.size h'.size, fun k hk hr => (h'.block k (Nat.lt_of_lt_of_le hk h.size) hr).trans (h.block k hk hr)⟩
/-- Where the first one stands that is as asked. -/
def IdxP (q : List Nat) (p : Nat → Bool) (r : Int) : Prop := (r = -1 ∧ ∀ k ∈ q, p k = false) ∨ ∃ i x, r = (i : Nat) ∧ q[i]? = some x ∧ p x = true ∧ ∀ k ∈ q.take i, p k = false
set_option maxHeartbeats 1000000 in
set_option maxRecDepth 100000 in
theorem indexT_W {ad : Option Addr} {cap n : Nat} {q : List Nat} {P : Nat → Nat} {p : Nat → Bool} (g : Nat) (lb : Array Value) (eg : ∀ args w, (callFunc g args).run Try.prog w = .ok (.enter g args) w) (r : Option Nat) (w : World) (HA : Hid (shP.At w ad cap (q.map P))) (hm : Hid (q.length = n)) (hn : n ≤ 64) (HC : Hid (Asks g lb P q p w r)) :
    Calls Try.prog 45 #[.slice ad n cap, .func (.func g) #[] lb] w fun e w' => (∃ i, IdxP q p i ∧ e = .returned (.int .i64 i)) ∧ ∃ j, w' = w.drewN j := by
  go_enter Try.func45, Try.ntmps45
  go_wp2_with fail
  go_loopw [8] (fun i wr => ∃ k : Nat, k ≤ n ∧ i = .int .i64 k ∧ (∃ j, wr = w.drewN j) ∧ Hid (∀ x ∈ q.take k, p x = false)) (fun i _ => n - (intOf i).toNat)
  case atStart => exact ⟨0, Nat.zero_le _, rfl, ⟨0, rfl⟩, Lib.hid (fun x hx => by simp at hx)⟩
  case round =>
    obtain ⟨k, hk, rfl, ⟨j, hw⟩, HN⟩ := hrel
    have hg := grown_drewN w r j
    rw [← hw] at hg
    have HW := Lib.hid hw
    by_cases hlt : k < n
    · obtain ⟨t, ht⟩ : ∃ t, q[k]? = some t := ⟨q[k]'(by rw [hm.out]; exact hlt), List.getElem?_eq_getElem _⟩
      have htm : (q.map P)[k]? = some (P t) := by rw [List.getElem?_map, ht]; rfl
      have hA : shP.At wr ad cap (q.map P) := by rw [hw]; exact HA.out.step (below_drewN (Below.refl _ _) j)
      obtain ⟨b, off, rfl, hbl, e0⟩ := at_ptr hA htm
      have hcall := HC.out t (List.mem_of_getElem? ht) wr hg
      have HT := Lib.hid ht
      clear hA ht htm hw hg
      cases hp : p t with
      | false =>
        rw [hp] at hcall
        have HP := Lib.hid hp
        clear hp
        go_wp2_with (go_at_fn g; refine hcall.mono ?_; rintro e w' ⟨rfl, qq, rfl⟩)
        go_roundw
        case rel => exact ⟨k + 1, by omega, by go_num, ⟨j + qq, by rw [HW.out]; simp [World.drewN, Nat.add_assoc]⟩, Lib.hid (fun x hx => by
          rw [List.take_add_one, HT.out, List.mem_append] at hx
          rcases hx with hx | hx
          · exact HN.out x hx
          · simp at hx; rw [hx]; exact HP.out)⟩
        case measure => simp [intOf]; omega
      | true =>
        rw [hp] at hcall
        have HP := Lib.hid hp
        clear hp
        go_wp2_with (go_at_fn g; refine hcall.mono ?_; rintro e w' ⟨rfl, qq, rfl⟩)
        go_ret
        exact ⟨⟨_, Or.inr ⟨k, t, rfl, HT.out, HP.out, HN.out⟩, rfl⟩, ⟨j + qq, by rw [HW.out]; simp [World.drewN, Nat.add_assoc]⟩⟩
    · obtain rfl : k = n := by omega
      have e : q.take k = q := by rw [← hm.out, List.take_length]
      rw [e] at HN
      clear hlt hk hg hw
      go_wp2_with fail
      go_ret
      exact ⟨⟨_, Or.inl ⟨rfl, HN.out⟩, rfl⟩, ⟨j, HW.out⟩⟩
/-- The row while it is rewritten. -/
structure DelS (w wr : World) (g n cap : Nat) (f : Nat → Nat) : Prop where
  gr : w.grownBy wr (some g)
  row : ∃ cur : Array Value, wr.heap[g]? = some (.cells cur 58 (0, 0)) ∧ cur.size = cap ∧ ∀ j, j < n → cur[j]? = some (.pointer (some ⟨f j, 0, none⟩))
section
variable {w wr : World} {g n cap : Nat} {f : Nat → Nat}
theorem DelS.drewN (h : DelS w wr g n cap f) (j : Nat) : DelS w (wr.drewN j) g n cap f := ⟨grown_trans h.gr (grown_drewN _ _ _), by obtain ⟨cur, hc, r⟩ := h.row; exact ⟨cur, heap_step hc (below_drewN (Below.refl _ _) j), r⟩⟩
theorem DelS.cell (h : DelS w wr g n cap f) {j : Nat} (hj : j < n) : wr.cell? ⟨g, j, none⟩ = some (.pointer (some ⟨f j, 0, none⟩)) ∧ ∀ i, wr.frozen? ⟨g, i, none⟩ = false := by
  obtain ⟨cur, hc, _, hi⟩ := h.row
  exact ⟨by rw [cell_of_row wr g j _ _ _ hc]; exact hi j hj, fun i => frozen_of_row wr g i cur _ hc⟩
theorem DelS.lt (h : DelS w wr g n cap f) : g < wr.heap.size := by obtain ⟨cur, hc, _⟩ := h.row; exact heap_lt hc
theorem DelS.put (h : DelS w wr g n cap f) {i : Nat} (hi : i < n) (v : Nat) : DelS w (wr.setCell ⟨g, i, none⟩ (.pointer (some ⟨v, 0, none⟩))) g n cap (upd f i v) := by
  obtain ⟨cur, hc, hs, hr⟩ := h.row
  have h8 : i < cur.size := (Array.getElem?_eq_some_iff.1 (hr i hi)).1
  refine ⟨grown_trans h.gr ⟨rfl, rfl, rfl, by simp, fun k _ hne => Below.heap_setCell wr ⟨g, i, none⟩ _ k (fun e => hne (by simp only at e; rw [e]))⟩, _, heap_setCell_same wr g i cur _ _ hc, by simpa using hs, fun x hx => ?_⟩
  by_cases e : x = i
  · subst e
    simp [upd, Array.getElem?_setIfInBounds]
    omega
  · rw [Array.getElem?_setIfInBounds_ne (fun q => e q.symm), upd, if_neg e]
    exact hr x hx
end
/-- What has been kept of the first j. -/
structure KptS (q : List Nat) (P : Nat → Nat) (p : Nat → Bool) (i j : Nat) (f : Nat → Nat) : Prop where
  len : ((q.take j).filter fun k => !p k).length = i
  lt : i < j
  lo : ∀ x, x < i → f x = (((q.take j).filter fun k => !p k).map P).getD x 0
  hi : ∀ x, j ≤ x → f x = (q.map P).getD x 0
theorem kpt_start {q : List Nat} {P : Nat → Nat} {p : Nat → Bool} {i x : Nat} (hx : q[i]? = some x) (hp : p x = true) (ha : ∀ k ∈ q.take i, p k = false) : KptS q P p i (i + 1) (fun y => (q.map P).getD y 0) := by
  have hi := (List.getElem?_eq_some_iff.1 hx).1
  have e : (q.take (i + 1)).filter (fun k => !p k) = q.take i := by
    rw [List.take_add_one, hx, List.filter_append]
    have e1 : (q.take i).filter (fun k => !p k) = q.take i := List.filter_eq_self.2 fun k hk => by simp [ha k hk]
    rw [e1]
    simp [hp]
  refine ⟨by rw [e, List.length_take]; omega, by omega, fun y hy => ?_, fun _ _ => rfl⟩
  rw [e]
  simp only [List.getD, List.getElem?_map, List.getElem?_take_of_lt hy]
theorem KptS.keep {q : List Nat} {P : Nat → Nat} {p : Nat → Bool} {i j x : Nat} {f : Nat → Nat} (h : KptS q P p i j f) (hx : q[j]? = some x) (hp : p x = false) : KptS q P p (i + 1) (j + 1) (upd f i (P x)) := by
  have e : (q.take (j + 1)).filter (fun k => !p k) = (q.take j).filter (fun k => !p k) ++ [x] := by
    rw [List.take_add_one, hx, List.filter_append]
    simp [hp]
  have hl := h.len
  have hij := h.lt
  refine ⟨by rw [e, List.length_append, hl]; rfl, by omega, fun y hy => ?_, fun y hy => ?_⟩
  · rw [e, List.map_append]
    by_cases g : y = i
    · subst g
      rw [upd_same]
      simp [List.getD, hl]
    · rw [upd_other g, h.lo y (by omega)]
      have : y < ((q.take j).filter fun k => !p k).length := by omega
      simp [List.getD, List.getElem?_append_left, this]
  · rw [upd_other (by omega)]
    exact h.hi y (by omega)
theorem KptS.skip {q : List Nat} {P : Nat → Nat} {p : Nat → Bool} {i j x : Nat} {f : Nat → Nat} (h : KptS q P p i j f) (hx : q[j]? = some x) (hp : p x = true) : KptS q P p i (j + 1) f := by
  have e : (q.take (j + 1)).filter (fun k => !p k) = (q.take j).filter (fun k => !p k) := by
    rw [List.take_add_one, hx, List.filter_append]
    simp [hp]
  exact ⟨by rw [e]; exact h.len, by have := h.lt; omega, fun y hy => by rw [e]; exact h.lo y hy, fun y hy => h.hi y (by omega)⟩
theorem zeroP (w : World) : (zeroValue 58).run Try.prog w = .ok (.pointer none) w := by kernel_rfl
set_option maxHeartbeats 2000000 in
set_option maxRecDepth 100000 in
theorem delT_W {ad : Option Addr} {cap n base : Nat} {q : List Nat} {P : Nat → Nat} {p : Nat → Bool} (g : Nat) (lb : Array Value) (eg : ∀ args w, (callFunc g args).run Try.prog w = .ok (.enter g args) w) (w : World) (HO : Hid (w.ownsRow base 58 1 (.slice ad n cap) n (shP.flat (q.map P)))) (hm : Hid (q.length = n)) (hn : n ≤ 64) (HC : Hid (Asks g lb P q p w (Value.slice ad n cap).ownBlock)) (m : Nat) (HM : Hid ((q.filter fun k => !p k).length = m)) :
    Calls Try.prog 36 #[.slice ad n cap, .func (.func g) #[] lb] w fun e w' => e = .returned (.slice ad m cap) ∧ w'.ownsRow base 58 1 (.slice ad m cap) m (shP.flat ((q.filter fun k => !p k).map P)) ∧ w.grownBy w' (Value.slice ad n cap).ownBlock := by
  have HA := Lib.hid (Shape.At.own (S := shP) HO.out (by rw [List.length_map]; exact hm.out))
  go_enter Try.func36, Try.ntmps36
  go_upto_region 2 with (first
    | (go_at_call 45; (with_reducible refine (indexT_W g lb eg _ _ HA hm hn HC).mono ?_); rintro e w1 ⟨⟨i0, hi0, rfl⟩, hd⟩; have HI := Lib.hid hi0; have HD := Lib.hid hd; clear hi0 hd)
    | fail)
  obtain ⟨d0, hd0⟩ := HD.out
  rcases HI.out with ⟨rfl, hall⟩ | ⟨i, x, rfl, hx, hp, hlo⟩
  · have hq : (q.filter fun k => !p k) = q := List.filter_eq_self.2 fun k hk => by simp [hall k hk]
    have e0 : m = n := by rw [← HM.out, hq]; exact hm.out
    subst e0
    have HQ := Lib.hid hq
    have H1 := Lib.hid hd0
    clear hq hall hd0 HI
    go_wp2_with fail
    go_ret
    rw [HQ.out, H1.out]
    exact ⟨rfl, own_step HO.out (below_drewN (Below.refl _ _) _), grown_drewN _ _ _⟩
  · have hil := (List.getElem?_eq_some_iff.1 hx).1
    have hin : i < n := by rw [← hm.out]; exact hil
    obtain ⟨ad', cap', hv, hnc, hcmx, hnone, hsome⟩ := own_shape HO.out
    simp only [Value.slice.injEq, true_and] at hv
    obtain ⟨rfl, rfl⟩ := hv
    obtain ⟨gb, hgb⟩ : ∃ gb, ad = some ⟨gb, 0, none⟩ := by
      cases ad with
      | none => have := (hnone rfl).1; omega
      | some a =>
        obtain ⟨g', rfl, _⟩ := hsome a rfl
        exact ⟨g', rfl⟩
    subst hgb
    have hD0 : DelS w w gb n cap (fun y => (q.map P).getD y 0) := by
      obtain ⟨h1, h2⟩ := HO.out
      rcases h2 with ⟨h2, _⟩ | ⟨g', cp, cur, hv, hg, hh, hn', hc, hs, ht⟩
      · cases h2
      · simp only [Value.slice.injEq, Option.some.injEq, Addr.mk.injEq, and_true, true_and] at hv
        obtain ⟨rfl, rfl⟩ := hv
        refine ⟨srt_grown _ _, cur, hh, by omega, fun j hj => ?_⟩
        rw [Nat.mul_one] at ht
        have hl : (q.map P).length = n := by rw [List.length_map]; exact hm.out
        rw [← Array.getElem?_toList, ← List.getElem?_take_of_lt hj, ht, flat_ptr, List.getElem?_map, List.getElem?_eq_getElem (by omega)]
        simp [List.getD, List.getElem?_eq_getElem (show j < (q.map P).length by omega)]
    have D1 := Lib.hid (hD0.drewN d0)
    rw [← hd0] at D1
    have K1 := Lib.hid (kpt_start (P := P) hx hp hlo)
    have hne1 : ((i : Int) == -1) = false := beq_eq_false_iff_ne.2 (by omega)
    have hne2 : ¬ (i : Int) = -1 := by omega
    clear hD0 hd0 hx hp hlo HI hnone hsome HD
    go_wp2_with fail
    go_loopw [5, 6, 7] (fun s5 s6 _ wr => ∃ (i j : Nat) (f : Nat → Nat), s5 = .int .i64 i ∧ s6 = .int .i64 j ∧ j ≤ n ∧ Hid (DelS w wr gb n cap f) ∧ Hid (KptS q P p i j f)) (fun _ s6 _ _ => n - (intOf s6).toNat)
    case atStart => exact ⟨i, i + 1, _, rfl, by go_num, by omega, D1, K1⟩
    case round =>
      clear D1 K1 hne1 hne2 hil hin
      obtain ⟨i, j, f, rfl, rfl, hj, D, K⟩ := hrel
      have hij := K.out.lt
      by_cases hlt : j < n
      · obtain ⟨t, ht⟩ : ∃ t, q[j]? = some t := ⟨q[j]'(by rw [hm.out]; exact hlt), List.getElem?_eq_getElem _⟩
        obtain ⟨cj, fz⟩ := D.out.cell hlt
        obtain ⟨ci, _⟩ := D.out.cell (show i < n by omega)
        have hfj : f j = P t := by rw [K.out.hi j (Nat.le_refl _)]; simp [List.getD, ht]
        rw [hfj] at cj
        have hcall := HC.out t (List.mem_of_getElem? ht) wr D.out.gr
        have fi := fz i
        have hgl := D.out.lt
        generalize f i = old at ci
        have HT := Lib.hid ht
        clear ht fz hfj
        cases hp : p t with
        | false =>
          rw [hp] at hcall
          have KN := Lib.hid (K.out.keep HT.out hp)
          have DN := Lib.hid (fun qq => (D.out.drewN qq).put (show i < n by omega) (P t))
          clear hp
          go_wp2_with (go_at_fn g; refine hcall.mono ?_; rintro e w' ⟨rfl, qq, rfl⟩)
          go_roundw
          case rel => exact ⟨i + 1, j + 1, _, by go_num, by go_num, by omega, Lib.hid (DN.out qq), KN⟩
          case measure => simp [intOf]; omega
        | true =>
          rw [hp] at hcall
          have KN := Lib.hid (K.out.skip HT.out hp)
          clear hp
          go_wp2_with (go_at_fn g; refine hcall.mono ?_; rintro e w' ⟨rfl, qq, rfl⟩)
          go_roundw
          case rel => exact ⟨i, j + 1, f, rfl, by go_num, by omega, Lib.hid (D.out.drewN qq), KN⟩
          case measure => simp [intOf]; omega
      · obtain rfl : j = n := by omega
        have e : q.take j = q := by rw [← hm.out, List.take_length]
        have hkl := K.out.len
        have hklo := K.out.lo
        rw [e] at hkl hklo
        obtain rfl : m = i := by rw [← HM.out]; exact hkl
        have HKL := Lib.hid hklo
        have hcl : ∀ ty, (Builtin.clear_ #[46] ty #[.slice (some ⟨gb, m, none⟩) (j - m) (cap - m)]).run Try.prog wr = .ok (.tuple #[]) (wr.setCells gb m (List.replicate (j - m) (.pointer none))) :=
          fun ty => Lib.run_clear_slice wr _ _ ty _ Try.underlying46 zeroP rfl rfl gb m _ _ (by omega) (fun t ht => by rw [(D.out.cell (show m + t < j by omega)).1]; rfl) (fun t ht => (D.out.cell (show m < j by omega)).2 _)
        clear hlt hj K hkl hklo e
        go_wp2_with fail
        go_ret
        obtain ⟨hgr, cur, hc, hs, hr⟩ := D.out
        obtain ⟨⟨cur', h1, h2, h3⟩, h4⟩ := setCells_heap (List.replicate (j - m) (Value.pointer none)) m wr cur hc
        have hbg := (own_lt HO.out (g := gb) rfl).1
        refine ⟨rfl, ⟨by rw [flat_ptr, List.length_map, List.length_map, HM.out, Nat.mul_one], Or.inr ⟨gb, cap, cur', rfl, hbg, h1, by omega, hcmx, by rw [h2, hs, Nat.mul_one], ?_⟩⟩, grown_trans hgr h4⟩
        have hFl : ((q.filter fun k => !p k).map P).length = m := by rw [List.length_map]; exact HM.out
        rw [Nat.mul_one, flat_ptr]
        apply List.ext_getElem?
        intro x
        by_cases hx : x < m
        · rw [List.getElem?_take_of_lt hx, Array.getElem?_toList, h3 x hx, hr x (by omega), HKL.out x hx, List.getElem?_map, List.getElem?_eq_getElem (by omega)]
          simp [List.getD, List.getElem?_eq_getElem (show x < ((q.filter fun k => !p k).map P).length by omega)]
        · rw [List.getElem?_eq_none (by rw [List.length_take]; omega), List.getElem?_eq_none (by rw [List.length_map]; omega)]
end Go.Proofs.Ytningajaimbncaa
