/- Package wheel: add, cancel, tick and perform, at states. -/
import Derived.Test.YtnnphmpodcmmoaaWhlD
import Derived.Test.YtnnphmpodcmmoaaWhlE
namespace Go.Proofs.Ytnnphmpodcmmoaa
open Go.RowKit Go.Maps

def WhS (w0 w : World) (B m L : Nat) (s : StT) : Prop := ∃ R, WhR w0 w B m L s.now s.set (slotT s.set) s.fired R
structure BndT (s : StT) (K : Nat) : Prop where
  now : s.now ≤ 2000 * K
  cnt : s.set.length + s.fired.length ≤ K
  wf : ∀ p ∈ s.set, WfI p.2
theorem WhS.step {w0 w w' : World} {B m L : Nat} {s : StT} (h : WhS w0 w B m L s) (hb : Below w.heap.size w w') : WhS w0 w' B m L s := by
  obtain ⟨R, h⟩ := h
  exact ⟨R, h.step hb⟩
theorem WhS.more {w0 w : World} {B m L L' : Nat} {s : StT} (h : WhS w0 w B m L s) (hL : L ≤ L') : WhS w0 w B m L' s := by
  obtain ⟨R, h⟩ := h
  exact ⟨R, h.more hL⟩
theorem WhS.lt {w0 w : World} {B m L : Nat} {s : StT} (h : WhS w0 w B m L s) : B < w.heap.size ∧ w0.heap.size ≤ B := by
  obtain ⟨R, h⟩ := h
  exact ⟨h.lt, h.hB⟩
theorem slot_len (set : List FiT) (j : Nat) : (slotT set j).length ≤ set.length := by
  unfold slotT
  rw [List.length_map]
  exact List.length_filter_le _ _
theorem bnd_new : BndT newT 0 := ⟨Nat.le_refl _, Nat.le_refl _, fun p h => by cases h⟩
theorem BndT.more {s : StT} {K K' : Nat} (h : BndT s K) (hk : K ≤ K') : BndT s K' := ⟨by have := h.now; omega, by have := h.cnt; omega, h.wf⟩
theorem bnd_add {s : StT} {K : Nat} (h : BndT s K) (i : Int) (n : Nat) (hw : WfI i) : BndT (addT s i n) (K + 1) :=
  ⟨by have := h.now; simp only [addT]; omega, by have := h.cnt; simp only [addT, len_ins]; omega, fun p hp => by
    rcases mem_ins.1 hp with e | e
    · rw [e]; exact hw
    · exact h.wf p e⟩
theorem bnd_cut {s : StT} {K : Nat} (h : BndT s K) (i : Int) : BndT (cutT s i) K :=
  ⟨h.now, by have := h.cnt; have h2 : (cutL i s.set).length ≤ s.set.length := List.length_filter_le _ _; simp only [cutT]; omega, fun p hp => h.wf p (List.mem_filter.1 hp).1⟩
theorem bnd_tick {s : StT} {K : Nat} (h : BndT s K) (n : Nat) (hn : n ≤ 2000) : BndT (tickT s n) (K + 1) :=
  ⟨by have := h.now; simp only [tickT]; omega, by have := h.cnt; have h2 := len_due (l := s.set) (s.now + n); simp only [tickT, List.length_append]; omega, fun p hp => h.wf p (List.mem_filter.1 hp).1⟩
theorem bnd_do {s : StT} {K : Nat} (h : BndT s K) {o : TmT} (hw : WfI o.i) (he : errT s o = 0) : BndT (doT s o) (K + 1) := by
  unfold doT
  by_cases h1 : o.k = 1
  · rw [if_pos h1]; exact bnd_add h _ _ hw
  · rw [if_neg h1]
    by_cases h2 : o.k = 2
    · rw [if_pos h2]; exact (bnd_cut h _).more (Nat.le_succ _)
    · rw [if_neg h2]
      have := err_tick he h1 h2
      exact bnd_tick h _ (by omega)
theorem bnd_step {s : StT} {K : Nat} (h : BndT s K) {o : TmT} (hw : WfI o.i) : BndT (stepT s o) (K + 1) := by
  unfold stepT
  by_cases he : errT s o = 0
  · rw [if_pos he]; exact bnd_do h hw he
  · rw [if_neg he]; exact h.more (Nat.le_succ _)
section
variable {w0 w : World} {B m L K : Nat} {s : StT}
theorem add_S (H : Hid (WhS w0 w B m L s)) (hg : Hid (GoodT s)) (hb : Hid (BndT s K)) (hK : K ≤ 400) (hL : L ≤ 400) (i x : Int) (n : Nat) (hw : WfI i) (h1 : 1 ≤ n) (h2 : n ≤ 511) (hx : x = ((s.now + n : Nat) : Int)) (hq : setQ s.set i = false) :
    Calls Try.prog 25 #[.pointer (some ⟨B, 0, none⟩), .int .i64 i, .int .i64 x] w fun e w' => e = .returned (.tuple #[]) ∧ WhS w0 w' B m (L + 1) (addT s i n) ∧ KeepT w w' := by
  subst hx
  obtain ⟨R, hR⟩ := H.out
  have hlen := slot_len s.set ((s.now + n) % 511)
  have hc := hb.out.cnt
  have hnow := hb.out.now
  refine (add_W (Lib.hid hR) i (s.now + n) ((s.now + n) % 511) _ _ hw (by omega) rfl hq (by omega) (Lib.hid (slot_srt hg.out _)) (Lib.hid rfl) (by omega) (Lib.hid rfl)).mono ?_
  rintro e w' ⟨rfl, R', h, hk⟩
  refine ⟨rfl, ⟨R', h.same fun j _ => ?_⟩, hk⟩
  have := slot_add hg.out h1 h2 hq j
  simp only [addT] at this ⊢
  rw [this]
  by_cases e : j = (s.now + n) % 511
  · rw [if_pos e, if_pos e, e]
  · rw [if_neg e, if_neg e]
theorem cancel_S (H : Hid (WhS w0 w B m L s)) (hg : Hid (GoodT s)) (hb : Hid (BndT s K)) (hK : K ≤ 400) (i : Int) (hw : WfI i) (hq : setQ s.set i = true) :
    Calls Try.prog 26 #[.pointer (some ⟨B, 0, none⟩), .int .i64 i] w fun e w' => e = .returned (.tuple #[]) ∧ WhS w0 w' B m L (cutT s i) ∧ KeepT w w' := by
  obtain ⟨R, hR⟩ := H.out
  obtain ⟨t, ht⟩ := setQ_mem.1 hq
  have hlen := slot_len s.set (t % 511)
  have hc := hb.out.cnt
  have hat := count_at (slot_srt hg.out (t % 511)) (mem_slot.2 ⟨t, ht, rfl⟩)
  refine (cancel_W (Lib.hid hR) i t (t % 511) _ _ hw rfl ht hg.out.nod (Lib.hid (slot_srt hg.out _)) (Lib.hid rfl) (by omega) (Lib.hid rfl) hat.1).mono ?_
  rintro e w' ⟨rfl, R', h, hk⟩
  refine ⟨rfl, ⟨R', h.same fun j _ => ?_⟩, hk⟩
  have := slot_cut hg.out ht j
  simp only [cutT] at this ⊢
  rw [this]
  by_cases e : j = t % 511
  · rw [if_pos e, if_pos e, e]
  · rw [if_neg e, if_neg e]
theorem tick_S (H : Hid (WhS w0 w B m L s)) (hg : Hid (GoodT s)) (hb : Hid (BndT s K)) (hK : K ≤ 401) :
    Calls Try.prog 27 #[.pointer (some ⟨B, 0, none⟩)] w fun e w' => e = .returned (.tuple #[]) ∧ WhS w0 w' B m L (tickT s 1) ∧ KeepT w w' := by
  obtain ⟨R, hR⟩ := H.out
  have hlen := slot_len s.set ((s.now + 1) % 511)
  have hc := hb.out.cnt
  have hnow := hb.out.now
  refine (tick_W (Lib.hid hR) ((s.now + 1) % 511) _ _ rfl (by omega) hg.out.nod (Lib.hid rfl) (by omega) (Lib.hid rfl) (by omega) (Lib.hid fun x hx => ?_)).mono ?_
  · obtain ⟨t, ht, _⟩ := mem_slot.1 hx
    exact hb.out.wf _ ht
  rintro e w' ⟨rfl, R', h, hk⟩
  refine ⟨rfl, ⟨R', ?_⟩, hk⟩
  have e1 : outL (slotT s.set ((s.now + 1) % 511)) s.set = laterL (s.now + 1) s.set := out_due hg.out.nod _ _ fun i => by
    rw [due_one hg.out]
    simp
  rw [e1, ← due_one hg.out] at h
  refine WhR.same (sl := fun x => if x = (s.now + 1) % 511 then [] else slotT s.set x) h fun j _ => ?_
  exact slot_tick hg.out j
end
end Go.Proofs.Ytnnphmpodcmmoaa
