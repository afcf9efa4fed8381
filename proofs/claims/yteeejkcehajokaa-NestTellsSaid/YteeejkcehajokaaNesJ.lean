/- corebellref.GStep for every core and kind. -/
import Derived.Test.YteeejkcehajokaaNesI
namespace Go.Proofs.Yteeejkcehajokaa
open Go.RowKit

theorem stepNN_rt {c : CoreT} (h : RtN c) (k : Int) : stepNN c k = if errN true c k = 0 then (newN c k, 0) else (⟨false, []⟩, errN true c k) := by
  unfold stepNN
  rw [okN_true.2 h]
theorem gbad {w : World} {on' : Bool} {l' : List FrT} {n' : Nat} {x y : Int} {F : Nat} {args : Array Value} (h1 : (⟨false, []⟩ : CoreT) = ⟨on', l'⟩) (hx : y = x) (hm' : Hid (l'.length = n'))
    (h : Calls Try.prog F args w fun e w' => e = .returned (.tuple #[.agg #[.bool false, .slice none 0 0], .int .i64 y]) ∧ Below w.heap.size w w') :
    Calls Try.prog F args w fun e w' => ∃ ra rc, e = .returned (.tuple #[.agg #[.bool on', .slice ra n' rc], .int .i64 x]) ∧ w'.ownsRow w.heap.size 43 2 (.slice ra n' rc) n' (shF.flat l') ∧ Below w.heap.size w w' := by
  simp only [CoreT.mk.injEq] at h1
  obtain ⟨rfl, rfl⟩ := h1
  subst hx
  obtain rfl : n' = 0 := hm'.out.symm
  refine h.mono ?_
  rintro e w' ⟨rfl, hb⟩
  exact ⟨none, 0, rfl, World.ownsRow_nil _ _ _ _, hb⟩
/-- corebellref.GStep, for every core and kind. -/
theorem gstep_N {ad : Option Addr} {cap n : Nat} {l : List FrT} (on : Bool) (kind : Int) (w : World) (HA : Hid (shF.At w ad cap l)) (hm : Hid (l.length = n)) (hn : n ≤ 9223372036854775807) (hcap : n ≤ cap) (on' : Bool) (l' : List FrT) (n' : Nat) (x : Int) (H : Hid (stepNN ⟨on, l⟩ kind = (⟨on', l'⟩, x))) (hm' : Hid (l'.length = n')) :
    Calls Try.prog 8 #[.agg #[.bool on, .slice ad n cap], .int .i64 kind] w fun e w' => ∃ ra rc, e = .returned (.tuple #[.agg #[.bool on', .slice ra n' rc], .int .i64 x]) ∧ w'.ownsRow w.heap.size 43 2 (.slice ra n' rc) n' (shF.flat l') ∧ Below w.heap.size w w' := by
  have h := H.out
  by_cases hr : RtN ⟨on, l⟩
  · rw [stepNN_rt hr] at h
    have HR := Lib.hid hr
    have h4 : n ≤ 400 := by have := hr.len; simp only [hm.out] at this; exact this
    by_cases k0 : kind < 1 ∨ 4 < kind
    · have he : errN true ⟨on, l⟩ kind = 5 := errN_kind (by omega) (by omega) (by omega) (by omega)
      rw [he, if_neg (by decide)] at h
      simp only [Prod.mk.injEq] at h
      rcases k0 with k0 | k0
      · exact gbad h.1 h.2 hm' (g_low on kind w HA hm h4 HR k0)
      · exact gbad h.1 h.2 hm' (g_high on kind w HA hm h4 HR k0)
    by_cases k1 : kind = 1
    · subst k1
      have he := errN_push (on := on) (l := l) (kind := 1) (Or.inl rfl)
      rw [hm.out] at he
      by_cases g : 400 ≤ n
      · rw [if_pos g] at he
        rw [he, if_neg (by decide)] at h
        simp only [Prod.mk.injEq] at h
        exact gbad h.1 h.2 hm' (g_full1 on w HA hm h4 HR (by omega))
      · rw [if_neg g, if_neg (by omega)] at he
        rw [he, if_pos rfl, new_save] at h
        simp only [Prod.mk.injEq, pushN, CoreT.mk.injEq] at h
        obtain ⟨⟨rfl, rfl⟩, rfl⟩ := h
        obtain rfl : n' = n + 1 := by rw [← hm'.out, List.length_append, hm.out]; rfl
        exact g_push1 on w HA hm h4 HR g
    by_cases k3 : kind = 3
    · subst k3
      have he := errN_push (on := on) (l := l) (kind := 3) (Or.inr rfl)
      rw [hm.out] at he
      by_cases g : 400 ≤ n
      · rw [if_pos g] at he
        rw [he, if_neg (by decide)] at h
        simp only [Prod.mk.injEq] at h
        exact gbad h.1 h.2 hm' (g_full3 on w HA hm h4 HR (by omega))
      · cases on with
        | false =>
          rw [if_neg g, if_pos ⟨rfl, rfl⟩] at he
          rw [he, if_neg (by decide)] at h
          simp only [Prod.mk.injEq] at h
          exact gbad h.1 h.2 hm' (g_again w HA hm h4 HR g)
        | true =>
          rw [if_neg g, if_neg (by simp)] at he
          rw [he, if_pos rfl, new_enter] at h
          simp only [Prod.mk.injEq, pushN, CoreT.mk.injEq] at h
          obtain ⟨⟨rfl, rfl⟩, rfl⟩ := h
          obtain rfl : n' = n + 1 := by rw [← hm'.out, List.length_append, hm.out]; rfl
          exact g_push3 w HA hm h4 HR g
    · have hk : kind = 2 ∨ kind = 4 := by omega
      cases n with
      | zero =>
        rw [errN_pop0 hk hm.out, if_neg (by decide)] at h
        simp only [Prod.mk.injEq] at h
        rcases hk with rfl | rfl
        · exact gbad h.1 h.2 hm' (g_none2 on w HA hm h4 HR rfl)
        · exact gbad h.1 h.2 hm' (g_none4 on w HA hm h4 HR rfl)
      | succ n =>
        obtain ⟨⟨p, y⟩, hf⟩ : ∃ f, l[n]? = some f := ⟨l[n]'(by rw [hm.out]; omega), List.getElem?_eq_getElem _⟩
        have he := errN_pop (on := on) hk hm.out hf
        rw [new_pop (by omega) (by omega) (last_get hm.out hf)] at h
        have hnn : n ≤ 400 := by omega
        have ht : l.dropLast = l.take n := by rw [List.dropLast_eq_take, hm.out]; rfl
        rcases hk with rfl | rfl
        · cases y with
          | true =>
            rw [if_pos (by simp)] at he
            rw [he, if_neg (by decide)] at h
            simp only [Prod.mk.injEq] at h
            exact gbad h.1 h.2 hm' (g_rank2 on w HA hm hnn p (Lib.hid hf) HR)
          | false =>
            rw [if_neg (by simp)] at he
            rw [he, if_pos rfl] at h
            simp only [Prod.mk.injEq, popN, CoreT.mk.injEq] at h
            obtain ⟨⟨rfl, rfl⟩, rfl⟩ := h
            obtain rfl : n' = n := by rw [← hm'.out, List.length_dropLast, hm.out]; rfl
            rw [ht]
            exact g_pop2 on w HA hm hnn p (Lib.hid hf) hcap HR
        · cases y with
          | false =>
            rw [if_pos (by simp)] at he
            rw [he, if_neg (by decide)] at h
            simp only [Prod.mk.injEq] at h
            exact gbad h.1 h.2 hm' (g_rank4 on w HA hm hnn p (Lib.hid hf) HR)
          | true =>
            rw [if_neg (by simp)] at he
            rw [he, if_pos rfl] at h
            simp only [Prod.mk.injEq, popN, CoreT.mk.injEq] at h
            obtain ⟨⟨rfl, rfl⟩, rfl⟩ := h
            obtain rfl : n' = n := by rw [← hm'.out, List.length_dropLast, hm.out]; rfl
            rw [ht]
            exact g_pop4 on w HA hm hnn p (Lib.hid hf) hcap HR
  · unfold stepNN at h
    rw [okN_false hr, errN_no, if_neg (by decide)] at h
    simp only [Prod.mk.injEq] at h
    exact gbad h.1 h.2 hm' (g_form on kind w HA hm hn (Lib.hid hr))
end Go.Proofs.Yteeejkcehajokaa
