/- Plain facts for corebellkeep.ApicAll: what is left to be served, and in which order it comes. No program in sight. -/
import Derived.Test.YtgddbmbljlngnaaDoorLocN
namespace Go.Proofs.YtgddbmbljlngnaaDoor

/-- Of the first k those above the class c. -/
def wanL (c : Int) (l : List Nat) (k : Nat) : List Nat := (l.take k).filter (fun m => decide (c < ((m / 16 : Nat) : Int)))
theorem wan_hit {c : Int} {l : List Nat} {k : Nat} (hk : k < l.length) (h : c < ((l.getD k 0 / 16 : Nat) : Int)) : wanL c l (k + 1) = wanL c l k ++ [l.getD k 0] := by
  unfold wanL
  rw [List.take_add_one, List.filter_append, List.getElem?_eq_getElem hk]
  rw [at_getD hk] at h ⊢
  simp
  omega
theorem wan_miss {c : Int} {l : List Nat} {k : Nat} (hk : k < l.length) (h : ¬ c < ((l.getD k 0 / 16 : Nat) : Int)) : wanL c l (k + 1) = wanL c l k := by
  unfold wanL
  rw [List.take_add_one, List.filter_append, List.getElem?_eq_getElem hk]
  rw [at_getD hk] at h
  simp
  omega
theorem wan_len (c : Int) (l : List Nat) (k : Nat) : (wanL c l k).length ≤ k := by
  unfold wanL
  have h1 := List.length_filter_le (fun m => decide (c < ((m / 16 : Nat) : Int))) (l.take k)
  have h2 := List.length_take_le k l
  omega
/-- All that are to be served. -/
def wan (s : St) : List Nat := wanL s.c (allOf s.p) (allOf s.p).length
theorem wan_mem (s : St) (m : Nat) : m ∈ wan s ↔ m < 256 ∧ s.p m = true ∧ s.c < ((m / 16 : Nat) : Int) := by
  unfold wan wanL
  rw [List.take_length, List.mem_filter, at_mem]
  simp [and_assoc]
theorem wan_sorted (s : St) : (wan s).Pairwise (· < ·) := by
  unfold wan wanL
  rw [List.take_length]
  exact (at_sorted s.p).filter _
theorem wan_lt (s : St) {i j : Nat} (hij : i < j) (hj : j < (wan s).length) : (wan s).getD i 0 < (wan s).getD j 0 := by
  rw [at_getD hj, at_getD (by omega)]
  exact List.pairwise_iff_getElem.1 (wan_sorted s) i j (by omega) hj hij
theorem wan_find (s : St) (m : Nat) (h : m ∈ wan s) : ∃ j, j < (wan s).length ∧ (wan s).getD j 0 = m := by
  obtain ⟨k, hk, e⟩ := List.getElem_of_mem h
  exact ⟨k, hk, by rw [at_getD hk, e]⟩
theorem wan_at (s : St) {j : Nat} (hj : j < (wan s).length) : (wan s).getD j 0 ∈ wan s := by
  rw [at_getD hj]
  exact List.getElem_mem hj
/-- While what is in service is ended: the rest of the state stays. -/
def Same (s0 s : St) : Prop := s.Ok ∧ s.right = true ∧ s.c = s0.c ∧ s.p = s0.p
theorem same_self {s : St} (h : s.Ok) (hr : s.right = true) : Same s s := ⟨h, hr, rfl, rfl⟩
theorem same_fin {s0 s : St} (h : Same s0 s) : Same s0 (s.fin (topOf s.q).toNat) := ⟨⟨h.1.1, h.1.2.dn _⟩, right_fin h.2.1, h.2.2.1, h.2.2.2⟩
theorem same_step {s0 s : St} (h : Same s0 s) (ht : 0 ≤ topOf s.q) : stepOf s 3 0 = (s.fin (topOf s.q).toNat, topOf s.q, 0) := by
  unfold stepOf
  rw [if_neg (by rw [h.2.1]; decide), if_neg (by decide), if_neg (by decide), if_pos rfl, if_neg (by omega)]
theorem top_fin {s : St} (h : 0 ≤ topOf s.q) : topOf (s.fin (topOf s.q).toNat).q < topOf s.q := by
  rcases topOf_cases s.q with ⟨e, _⟩ | ⟨n, e, hn, hq, ha⟩
  · omega
  · rw [e, Int.toNat_natCast]
    rcases topOf_cases (s.fin n).q with ⟨e', _⟩ | ⟨m, e', hm, hqm, _⟩
    · omega
    · rw [e']
      rw [fin_q s n m hm] at hqm
      simp at hqm
      have : ¬ n < m := fun hx => by rw [ha m hx hm] at hqm; cases hqm.1
      omega
/-- While the rest is served: nothing in service, the first r are still asked. -/
def Rest (s0 : St) (r : Nat) (s : St) : Prop := s.Ok ∧ s.right = true ∧ s.c = s0.c ∧ (∀ m, m < 256 → s.q m = false) ∧ (∀ m, m < 256 → (s.p m = true ↔ s0.p m = true ∧ ¬ ∃ j, r ≤ j ∧ j < (wan s0).length ∧ (wan s0).getD j 0 = m))
theorem rest_start {s0 s : St} (h : Same s0 s) (ht : topOf s.q < 0) : Rest s0 (wan s0).length s := by
  refine ⟨h.1, h.2.1, h.2.2.1, ?_, fun m hm => ?_⟩
  · rcases topOf_cases s.q with ⟨_, h0⟩ | ⟨n, e, _⟩
    · exact h0
    · omega
  · rw [h.2.2.2]
    exact ⟨fun hp => ⟨hp, fun ⟨j, h1, h2, _⟩ => by omega⟩, fun hp => hp.1⟩
theorem would_eq {s : St} {n : Nat} (hr : s.right = true) (hn : n < 256) (hp : s.p n = true) (hmax : ∀ m, m < 256 → s.p m = true → m ≤ n) (hc : s.c < ((n / 16 : Nat) : Int)) (hq : ∀ m, m < 256 → s.q m = false) : s.would = n := by
  have ht : topOf s.p = n := topOf_some hn hp (fun m h1 h2 => by
    cases hx : s.p m
    · rfl
    · have := hmax m h2 hx
      omega)
  have hz : topOf s.q = -1 := topOf_none hq
  unfold St.would wouldOf
  rw [if_pos, ht]
  refine ⟨hr, ?_, ?_, ?_⟩
  · rw [ht]; omega
  · rw [ht]; omega
  · rw [hz]; left; omega
/-- The next one comes, and is served. -/
theorem rest_step {s0 s : St} {r : Nat} (h : Rest s0 (r + 1) s) (hr : r < (wan s0).length) :
    stepOf s 2 0 = (s.take ((wan s0).getD r 0), (((wan s0).getD r 0 : Nat) : Int), 0) ∧ stepOf (s.take ((wan s0).getD r 0)) 3 0 = ((s.take ((wan s0).getD r 0)).fin ((wan s0).getD r 0), (((wan s0).getD r 0 : Nat) : Int), 0) ∧
      (s.take ((wan s0).getD r 0)).Ok ∧ Rest s0 r ((s.take ((wan s0).getD r 0)).fin ((wan s0).getD r 0)) := by
  obtain ⟨h1, h2, h3, h4, h5⟩ := h
  obtain ⟨hx256, hx0, hxc⟩ := (wan_mem s0 _).1 (wan_at s0 hr)
  have hinj : ∀ j, r + 1 ≤ j → j < (wan s0).length → (wan s0).getD r 0 < (wan s0).getD j 0 := fun j hj hl => wan_lt s0 (by omega) hl
  have hother : ∀ m, m < 256 → s0.p m = true → (wan s0).getD r 0 < m → ∃ j, r + 1 ≤ j ∧ j < (wan s0).length ∧ (wan s0).getD j 0 = m := by
    intro m hm hp hlt
    have hd : (wan s0).getD r 0 / 16 ≤ m / 16 := Nat.div_le_div_right (by omega)
    obtain ⟨j, hj, e⟩ := wan_find s0 m ((wan_mem s0 m).2 ⟨hm, hp, by omega⟩)
    refine ⟨j, ?_, hj, e⟩
    rcases Nat.lt_trichotomy j r with hl | hl | hl
    · have := wan_lt s0 hl hr
      omega
    · subst hl; omega
    · omega
  obtain ⟨x, hx⟩ : ∃ x, (wan s0).getD r 0 = x := ⟨_, rfl⟩
  rw [hx] at hx256 hx0 hxc hinj hother ⊢
  have hpx : s.p x = true := (h5 x hx256).2 ⟨hx0, fun ⟨j, hj, hl, e⟩ => by have := hinj j hj hl; omega⟩
  have hmax : ∀ m, m < 256 → s.p m = true → m ≤ x := by
    intro m hm hp
    obtain ⟨hp0, hno⟩ := (h5 m hm).1 hp
    by_cases hlt : x < m
    · exact (hno (hother m hm hp0 hlt)).elim
    · omega
  have hw : s.would = x := would_eq h2 hx256 hpx hmax (by rw [h3]; exact hxc) h4
  have hw0 : 0 ≤ s.would := by rw [hw]; omega
  have e1 : stepOf s 2 0 = (s.take x, (x : Int), 0) := by
    unfold stepOf
    rw [if_neg (by rw [h2]; decide), if_neg (by decide), if_pos rfl, if_neg (by omega), hw, Int.toNat_natCast]
  have hrt : (s.take x).right = true := by
    have := right_take hw0
    rw [hw, Int.toNat_natCast] at this
    exact this
  have htop : topOf (s.take x).q = x := topOf_some hx256 (by rw [take_q s x x hx256]; simp) (fun m hl hm => by rw [take_q s x m hm, h4 m hm]; simp; omega)
  have e2 : stepOf (s.take x) 3 0 = ((s.take x).fin x, (x : Int), 0) := by
    unfold stepOf
    rw [if_neg (by rw [hrt]; decide), if_neg (by decide), if_neg (by decide), if_pos rfl, htop, if_neg (by omega), Int.toNat_natCast]
  refine ⟨e1, e2, ⟨h1.1.dn _, h1.2.up _⟩, ⟨h1.1.dn _, (h1.2.up _).dn _⟩, right_fin hrt, h3, fun m hm => ?_, fun m hm => ?_⟩
  · rw [fin_q _ x m hm, take_q s x m hm, h4 m hm]
    simp
  · rw [fin_p, take_p s x m hm]
    by_cases e : m = x
    · subst e
      simp
      intro _
      exact ⟨r, Nat.le_refl _, hr, hx⟩
    · simp only [e, decide_false, Bool.not_false, Bool.and_true]
      rw [h5 m hm]
      constructor
      · rintro ⟨a, b⟩
        refine ⟨a, fun ⟨j, h6, h7, h8⟩ => ?_⟩
        by_cases ej : j = r
        · rw [ej, hx] at h8
          exact e h8.symm
        · exact b ⟨j, by omega, h7, h8⟩
      · rintro ⟨a, b⟩
        exact ⟨a, fun ⟨j, h6, h7, h8⟩ => b ⟨j, by omega, h7, h8⟩⟩
theorem rest_end {s0 s : St} (h : Rest s0 0 s) : s.would = -1 := by
  obtain ⟨_, _, h3, _, h5⟩ := h
  by_cases hw : 0 ≤ s.would
  · obtain ⟨n, _, _, _, hn, hp, hc, _, _⟩ := would_pos hw
    obtain ⟨hp0, hno⟩ := (h5 n hn).1 hp
    obtain ⟨j, hj, e⟩ := wan_find s0 n ((wan_mem s0 n).2 ⟨hn, hp0, by rw [← h3]; exact hc⟩)
    exact (hno ⟨j, Nat.zero_le _, hj, e⟩).elim
  · have := would_lt s
    omega
end Go.Proofs.YtgddbmbljlngnaaDoor
