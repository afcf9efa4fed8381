/- Maps from numbers to bools that tell a set of software interrupts; the walk of corebellref.JRun$1. -/
import Derived.Test.YtnaplbkigebdiaaSofF
import Derived.Maps.OwnSet
import Derived.Maps.RangeWalk
namespace Go.Proofs.Ytnaplbkigebdiaa
open Go.RowKit Go.Maps

theorem lawI : Keyed Try.prog 3 := int_keyed Try.underlying3
theorem zeroB (w : World) : (zeroValue 4).run Try.prog w = .ok (.bool false) w := by kernel_rfl
abbrev Dt := DataW Unit
/-- A map's reading tells the set f. -/
structure SetM (D : Dt) (f : Nat → Bool) : Prop where
  has : ∀ s : Nat, s < 8 → Maps.has D (.int .i64 s) = f s
  at' : ∀ (s : Nat) (z : Dt), s < 8 → f s = true → D.atKey (.int .i64 s) z = .lit (.bool true)
  sz : Maps.size D = 0 ↔ EmptyJ f
theorem lit_ne' {i j : Nat} (h : ¬ i = j) : (Lit.int .i64 (i : Int)) ≠ Lit.int .i64 (j : Int) := fun e => h (by cases e; rfl)
theorem set_empty : SetM (.map []) (fun _ => false) := ⟨fun s _ => rfl, (fun s z _ h => by cases h), ⟨fun _ s _ => rfl, fun _ => rfl⟩⟩
theorem has_size {D : Dt} {k : Lit} (h : Maps.has D k = true) : ¬ Maps.size D = 0 := by
  cases D with
  | map es =>
    rw [has_eq] at h
    rw [size_eq]
    intro e
    rw [List.eq_nil_of_length_eq_zero e] at h
    cases h
  | _ => cases h
theorem SetM.put {D : Dt} {s : Nat} {f : Nat → Bool} (h : SetM D f) (hD : IsMap D) (hs : s < 8) : SetM (D.put (.int .i64 s) (.lit (.bool true))) (upS f s true) := by
  refine ⟨fun j hj => ?_, fun j z hj hn => ?_, ?_⟩
  · by_cases e : j = s
    · subst e
      rw [has_put_same hD (show WideAt.IsKeyLit (.int .i64 (j : Int)) from trivial)]
      simp [upS]
    · rw [has_put_other (lit_ne' e), h.has j hj]
      simp [upS, e]
  · by_cases e : j = s
    · subst e
      rw [atKey_put_same hD (show WideAt.IsKeyLit (.int .i64 (j : Int)) from trivial)]
    · rw [atKey_put_other (lit_ne' e)]
      simp [upS, e] at hn
      exact h.at' j z hj hn
  · constructor
    · intro e
      exact absurd e (has_size (has_put_same hD (show WideAt.IsKeyLit (.int .i64 (s : Int)) from trivial) _))
    · intro e
      have := e s hs
      simp [upS] at this
theorem SetM.got {D : Dt} {s : Nat} {f : Nat → Bool} (h : SetM D f) (hs : s < 8) : D.atKey (.int .i64 s) (.lit (.bool false)) = .lit (.bool (f s)) := by
  cases e : f s with
  | true => exact h.at' s _ hs e
  | false => exact atKey_of_not_has (by rw [h.has s hs, e]) _
/-- Block b is a map of at most n entries that tells f. -/
def MapS (w : World) (b n : Nat) (f : Nat → Bool) : Prop := ∃ D : Dt, w.ownsMap Try.prog 3 (plainElem Try.prog 4) b n D ∧ SetM D f
theorem own_sameB {w w' : World} {b m : Nat} {D : Dt} {R : Value → Option (Dt × List MemPlace)} (h : w.ownsMap Try.prog 3 R b m D) (e : w'.heap[b]? = w.heap[b]?) : w'.ownsMap Try.prog 3 R b m D := by
  obtain ⟨es, clock, hb, r⟩ := h
  exact ⟨es, clock, e.trans hb, r⟩
section
variable {w w' : World} {b n : Nat} {f : Nat → Bool}
theorem MapS.same (h : MapS w b n f) (e : w'.heap[b]? = w.heap[b]?) : MapS w' b n f := by
  obtain ⟨D, h1, h2⟩ := h
  exact ⟨D, own_sameB h1 e, h2⟩
theorem MapS.lt (h : MapS w b n f) : b < w.heap.size := by
  obtain ⟨D, h1, h2⟩ := h
  exact h1.lt
theorem MapS.step (h : MapS w b n f) (hb : Below w.heap.size w w') : MapS w' b n f := h.same (hb.block b h.lt)
theorem MapS.more (h : MapS w b n f) {n' : Nat} (hm : n ≤ n') : MapS w b n' f := by
  obtain ⟨D, h1, h2⟩ := h
  exact ⟨D, h1.mono hm, h2⟩
theorem MapS.isMap (h : MapS w b n f) : ∃ es clock, w.heap[b]? = some (.map es clock) := by
  obtain ⟨D, ⟨es, clock, hb, _⟩, _⟩ := h
  exact ⟨es, clock, hb⟩
theorem mapS_ne (h : MapS w b n f) {B t : Nat} {cs : Array Value} {fr : Nat × Nat} (hB : w.heap[B]? = some (.cells cs t fr)) : ¬ B = b := by
  obtain ⟨es, clock, hb⟩ := h.isMap
  rintro rfl
  rw [hB] at hb
  cases hb
/-- The call's own row is no map. -/
theorem own_nemapS {base e size k : Nat} {v : Value} {xs : List Value} (h : w.ownsRow base e size v k xs) (hm : MapS w b n f) : ∀ g, v.ownBlock = some g → g ≠ b := by
  intro g hg e0
  subst e0
  obtain ⟨h1, h2⟩ := h
  rcases h2 with ⟨rfl, _⟩ | ⟨g', cap, cur, hv, _, hh, r⟩
  · cases hg
  · rw [hv] at hg
    simp only [Value.ownBlock, Option.some.injEq] at hg
    subst hg
    exact mapS_ne hm hh rfl
theorem grown_same {w w1 w2 : World} {r : Option Nat} (h : w.grownBy w1 r) (hb : w1.grownBy w2 r) : w.grownBy w2 r :=
  ⟨hb.os.trans h.os, hb.tape.trans h.tape, hb.output.trans h.output, Nat.le_trans h.size hb.size, fun k hk hr => (hb.block k (Nat.lt_of_lt_of_le hk h.size) hr).trans (h.block k hk hr)⟩
end
theorem map_newS (w : World) : MapS (w.alloc (.map #[] 0)) w.heap.size 0 (fun _ => false) := ⟨.map [], World.ownsMap_made _ _ _ _, set_empty⟩
theorem rJ_yes {rs : List RaT} {j n s : Nat} {r : RaT} (hr : rs[j]? = some r) (h1 : r.at_ = n) (h2 : r.soft = s) (f : Nat → Bool) : upS (fun x => f x || rJ (rs.take j) n x) s true = fun x => f x || rJ (rs.take (j + 1)) n x := by
  funext x
  have e : rJ (rs.take (j + 1)) n x = (rJ (rs.take j) n x || decide (x = s)) := by
    have : rs.take (j + 1) = rs.take j ++ [r] := by rw [List.take_add_one, hr]; rfl
    rw [this]
    unfold rJ
    rw [List.any_append]
    congr 1
    simp only [List.any_cons, List.any_nil, Bool.or_false, decide_eq_decide]
    omega
  rw [e]
  unfold upS
  by_cases q : x = s
  · rw [if_pos q, decide_eq_true q, Bool.or_true, Bool.or_true]
  · rw [if_neg q, decide_eq_false q, Bool.or_false]
theorem rJ_no {rs : List RaT} {j n : Nat} {r : RaT} (hr : rs[j]? = some r) (h1 : ¬ r.at_ = n) (x : Nat) : rJ (rs.take (j + 1)) n x = rJ (rs.take j) n x := by
  have : rs.take (j + 1) = rs.take j ++ [r] := by rw [List.take_add_one, hr]; rfl
  rw [this]
  unfold rJ
  rw [List.any_append]
  have : ([r].any fun r : RaT => decide (r.at_ = (n : Int) ∧ r.soft = (x : Int))) = false := by
    simp only [List.any_cons, List.any_nil, Bool.or_false, decide_eq_false_iff_not]
    exact fun h => h1 h.1
  rw [this, Bool.or_false]
/-- What come makes of it. -/
def ComeOut (w : World) (mb n m : Nat) (rs : List RaT) (q : Nat) (f : Nat → Bool) (e : Ending) (w' : World) : Prop :=
  e = .returned (.tuple #[]) ∧ MapS w' mb (n + m) (fun s => f s || rJ rs q s) ∧ w.grownBy w' (some mb)
set_option maxHeartbeats 2000000 in
set_option maxRecDepth 100000 in
theorem come_N {b4 mb c2 n m : Nat} {a2 : Option Addr} {rs : List RaT} {f : Nat → Bool} (q : Nat) (w : World) (HX : Hid (w.heap[b4]? = some (.cells #[.slice a2 m c2] 23 (0, 0)))) (HR : Hid (shR.At w a2 c2 rs)) (hm : Hid (rs.length = m)) (HN : ∀ a, a2 = some a → 0 < m → ¬ a.block = mb) (HM : Hid (MapS w mb n f)) (HU : Hid (RaUp 0 rs)) (hb : n + m < 9223372036854775807) :
    Calls Try.prog 24 #[.int .i64 q, .map (some mb), .pointer (some ⟨b4, 0, none⟩)] w (ComeOut w mb n m rs q f) := by
  have cx := one_at HX.out
  have hx4 := heap_lt HX.out
  go_enter Try.func24, Try.ntmps24
  go_wp2_with fail
  go_loopw [9] (fun i wr => ∃ j : Nat, j ≤ m ∧ i = .int .i64 j ∧ Hid (MapS wr mb (n + j) (fun s => f s || rJ (rs.take j) q s)) ∧ Hid (w.grownBy wr (some mb))) (fun i _ => m - (intOf i).toNat)
  case atStart => exact ⟨0, Nat.zero_le _, rfl, Lib.hid (by simpa [rJ] using HM.out), Lib.hid (grown_refl _ _)⟩
  case round =>
    obtain ⟨j, hj, rfl, HM, HG⟩ := hrel
    by_cases hjm : j < m
    · obtain ⟨r, hr⟩ : ∃ r, rs[j]? = some r := ⟨rs[j]'(by rw [hm.out]; exact hjm), List.getElem?_eq_getElem _⟩
      obtain ⟨b, off, rfl, hbl, e0, e1⟩ := at_ra HR.out hr
      have hne : ¬ b = mb := HN _ rfl (by omega)
      have hcell : ∀ i, wr.cell? ⟨b, i, none⟩ = w.cell? ⟨b, i, none⟩ := fun i => by
        unfold World.cell?
        rw [HG.out.block b hbl (fun e => hne (Option.some.inj e))]
      have g0 := (hcell _).trans e0
      have g1 := (hcell _).trans e1
      have hbr : b < wr.heap.size := Nat.lt_of_lt_of_le hbl HG.out.size
      have HRR := Lib.hid hr
      have HO := Lib.hid (HU.out j r hr).1
      obtain ⟨x, y⟩ := r
      simp only at g0 g1
      have MA := Lib.hid (HM.out.step (below_alloc wr (.cells #[.int .i64 x, .int .i64 y] 35)))
      have GA := Lib.hid (grown_below HG.out ((below_alloc wr (.cells #[.int .i64 x, .int .i64 y] 35)).mono HG.out.size))
      clear hcell e0 e1 hr
      by_cases hxq : x = (q : Int)
      · subst hxq
        obtain ⟨s, rfl⟩ : ∃ s : Nat, y = s := ⟨y.toNat, by have := HO.out; simp only at this; omega⟩
        have hs8 : s < 8 := by have := HO.out; simp only at this; omega
        have WFs : (Lit.int .i64 (s : Int)).wf = true := WalkArith.wf_i64 (by omega)
        obtain ⟨D, o1, T1⟩ := MA.out
        have O1 := Lib.hid o1
        have HT1 := Lib.hid T1
        have HF1 := Lib.hid (rJ_yes HRR.out rfl rfl f)
        have hnm : n + j < maxLen := by unfold maxLen; omega
        clear o1 T1 MA
        go_wp2_with (first
          | (at_mapUpdate; refine wpList_mapUpdate_own _ rfl _ _ _ 50 rfl 3 4 lawI Try.underlying50 _ mb (n + j) D rfl O1.out hnm _ _ (.int .i64 (s : Int)) rfl rfl (keyOf_int_mk Try.underlying3 WFs) (.lit (.bool true)) [] (plainElem_bool Try.underlying4 true) ?_; intro w5 hown5 hg5; have M5 : Hid (MapS w5 mb (n + (j + 1)) (fun x => f x || rJ (rs.take (j + 1)) q x)) := Lib.hid ⟨_, hown5, by rw [← HF1.out]; exact HT1.out.put O1.out.isMap hs8⟩; have G5 := Lib.hid (grown_same GA.out hg5); clear hown5 hg5)
          | fail)
        go_roundw
        case rel => exact ⟨j + 1, by omega, by go_num, M5, G5⟩
        case measure => simp [intOf]; omega
      · have hxd : (x == (q : Int)) = false := by simpa using hxq
        have M5 : Hid (MapS (wr.alloc (.cells #[.int .i64 x, .int .i64 y] 35)) mb (n + (j + 1)) (fun x => f x || rJ (rs.take (j + 1)) q x)) := Lib.hid (by
          have e : (fun x => f x || rJ (rs.take (j + 1)) q x) = fun x => f x || rJ (rs.take j) q x := by
            funext x; rw [rJ_no HRR.out hxq x]
          rw [e]
          exact MA.out.more (by omega))
        go_wp2_with fail
        go_roundw
        case rel => exact ⟨j + 1, by omega, by go_num, M5, GA⟩
        case measure => simp [intOf]; omega
    · obtain rfl : j = m := by omega
      have e : rs.take j = rs := by rw [← hm.out, List.take_length]
      have HMM := HM.out
      rw [e] at HMM
      have HF := Lib.hid HMM
      clear HMM HM e
      go_wp2_with fail
      go_end0
      exact ⟨rfl, HF.out, HG.out⟩
end Go.Proofs.Ytnaplbkigebdiaa
