/- Plain facts on runs: a run from any state; two runs one behind the other; readings of slices of operations and of what was sent, from one form to the other. -/
import Derived.Test.YtmldedkmmhnihaaConc
import Derived.Test.YtmldedkmmhnihaaLinQ
namespace Go.Proofs.Ytmldedkmmhnihaa
open Go.RowKit

/-- A run from a state on. -/
def plF (st : List PinT × List SentT) (K P : Nat → Int) : Nat → List PinT × List SentT
  | 0 => st
  | k + 1 => playStep (plF st K P k) (K k) (P k)
theorem playTo_plF (l : List PinT) (K P : Nat → Int) : ∀ k, playTo l K P k = plF (l, []) K P k
  | 0 => rfl
  | k + 1 => by rw [playTo, plF, playTo_plF l K P k]
theorem playStep_pre (s0 : List SentT) (out : List PinT) (ss : List SentT) (K P : Int) : playStep (out, s0 ++ ss) K P = ((playStep (out, ss) K P).1, s0 ++ (playStep (out, ss) K P).2) := by
  unfold playStep
  by_cases h : 1 ≤ K ∧ K ≤ 5 ∧ 0 ≤ P ∧ P < (out.length : Int)
  · rw [if_pos h, if_pos h]
    dsimp only
    split
    · rw [List.append_assoc]
    · rfl
  · rw [if_neg h, if_neg h]
theorem plF_pre (s0 : List SentT) (out : List PinT) (K P : Nat → Int) : ∀ k, plF (out, s0) K P k = ((plF (out, []) K P k).1, s0 ++ (plF (out, []) K P k).2)
  | 0 => by simp [plF]
  | k + 1 => by
    rw [plF, plF_pre s0 out K P k, playStep_pre, plF]
theorem plF_add (st : List PinT × List SentT) (K P : Nat → Int) (n : Nat) : ∀ k, plF st K P (n + k) = plF (plF st K P n) (fun i => K (n + i)) (fun i => P (n + i)) k
  | 0 => rfl
  | k + 1 => by
    rw [← Nat.add_assoc, plF, plF_add st K P n k, plF]
theorem plF_congr (st : List PinT × List SentT) {K P K' P' : Nat → Int} : ∀ n, (∀ i, i < n → K i = K' i ∧ P i = P' i) → plF st K P n = plF st K' P' n
  | 0, _ => rfl
  | n + 1, h => by
    rw [plF, plF, plF_congr st n (fun i hi => h i (by omega)), (h n (by omega)).1, (h n (by omega)).2]
/-- The operations as a list. -/
def opsOf (K P : Nat → Int) (n : Nat) : List (Int × Int) := (List.range n).map fun i => (K i, P i)
theorem opsOf_len (K P : Nat → Int) (n : Nat) : (opsOf K P n).length = n := by simp [opsOf]
theorem opsOf_at (K P : Nat → Int) (n i : Nat) (h : i < n) : (opsOf K P n)[i]? = some (K i, P i) := by
  rw [opsOf, List.getElem?_map, List.getElem?_range h]
  rfl
/-- A run of a list of operations. -/
def runL (st : List PinT × List SentT) (ops : List (Int × Int)) : List PinT × List SentT := plF st (kOf ops) (nOf ops) ops.length
theorem runL_app (st : List PinT × List SentT) (a b : List (Int × Int)) : runL st (a ++ b) = runL (runL st a) b := by
  unfold runL
  rw [List.length_append, plF_add]
  have e1 : plF st (kOf (a ++ b)) (nOf (a ++ b)) a.length = plF st (kOf a) (nOf a) a.length := plF_congr st _ fun i hi => by
    unfold kOf nOf
    rw [List.getD_eq_getElem?_getD, List.getD_eq_getElem?_getD, List.getElem?_append_left hi]
    exact ⟨rfl, rfl⟩
  rw [e1]
  refine plF_congr _ _ fun i _ => ?_
  unfold kOf nOf
  rw [List.getD_eq_getElem?_getD, List.getD_eq_getElem?_getD, List.getElem?_append_right (by omega), show a.length + i - a.length = i by omega]
  exact ⟨rfl, rfl⟩
theorem runL_opsOf (st : List PinT × List SentT) (K P : Nat → Int) (n : Nat) : runL st (opsOf K P n) = plF st K P n := by
  unfold runL
  rw [opsOf_len]
  refine plF_congr st _ fun i hi => ?_
  unfold kOf nOf
  rw [List.getD_eq_getElem?_getD, opsOf_at K P n i hi]
  exact ⟨rfl, rfl⟩
theorem play_parts (l : List PinT) (K1 P1 K2 P2 : Nat → Int) (n1 n2 : Nat) (x y : List PinT) (s t : List SentT) (h1 : playTo l K1 P1 n1 = (x, s)) (h2 : playTo x K2 P2 n2 = (y, t)) :
    playTo l (kOf (opsOf K1 P1 n1 ++ opsOf K2 P2 n2)) (nOf (opsOf K1 P1 n1 ++ opsOf K2 P2 n2)) (opsOf K1 P1 n1 ++ opsOf K2 P2 n2).length = (y, s ++ t) := by
  rw [playTo_plF] at h1 h2 ⊢
  show runL (l, []) _ = _
  rw [runL_app, runL_opsOf, runL_opsOf, h1, plF_pre, h2]
theorem playTo_ok {l : List PinT} (h : pinsOk l = true) (K P : Nat → Int) : ∀ n, pinsOk (playTo l K P n).1 = true
  | 0 => h
  | n + 1 => by
    have ih := playTo_ok h K P n
    rw [playTo]
    generalize playTo l K P n = st at ih ⊢
    unfold playStep
    split
    · rename_i hc
      have hq : (P n).toNat < st.1.length := by omega
      exact pins_set ih _ _ (pinStep_ok _ _ (pins_each ih _ hq))
    · exact ih
theorem ops_at {w : World} {ad : Option Addr} {cap n : Nat} {K P : Nat → Int} (h : OpsAt w ad cap K P n) : opShape.At w ad cap (opsOf K P n) := by
  refine ⟨fun e => ⟨(h.1 e).1, by rw [(h.1 e).2]; rfl⟩, fun h0 => ?_⟩
  rw [opsOf_len] at h0 ⊢
  obtain ⟨b, off, e, hb, hl⟩ := h.2 h0
  refine ⟨b, off, e, hb, fun k hk => ?_⟩
  have hs : opShape.size = 2 := rfl
  rw [hs] at hk
  have hj : k / 2 < n := by omega
  have hi : k % 2 < 2 := Nat.mod_lt _ (by decide)
  have := opShape.flat_at (opsOf K P n) (k / 2) (k % 2) _ (opsOf_at K P n (k / 2) hj) hi
  rw [hs, show k / 2 * 2 + k % 2 = k by omega] at this
  rw [this]
  have hc := hl (k / 2) hj
  have h2 : k % 2 = 0 ∨ k % 2 = 1 := by omega
  rcases h2 with h2 | h2
  · rw [h2, show off + k = off + k / 2 * 2 by omega, hc.1]
    rfl
  · rw [h2, show off + k = off + k / 2 * 2 + 1 by omega, hc.2]
    rfl
theorem ops_from {w : World} {ad : Option Addr} {cap : Nat} {l : List (Int × Int)} (h : opShape.At w ad cap l) : OpsAt w ad cap (kOf l) (nOf l) l.length := by
  refine ⟨fun e => ⟨(h.1 e).1, by rw [(h.1 e).2]; rfl⟩, fun h0 => ?_⟩
  obtain ⟨b, off, e, hb, hl⟩ := h.2 h0
  refine ⟨b, off, e, hb, fun k hk => ?_⟩
  have hs : opShape.size = 2 := rfl
  have hf := flatO_at l k hk
  have g0 := hl (k * 2) (by rw [hs]; omega)
  have g1 := hl (k * 2 + 1) (by rw [hs]; omega)
  rw [← Nat.add_assoc] at g1
  exact ⟨g0.trans hf.1, g1.trans hf.2⟩
theorem sents_at {w : World} {ad : Option Addr} {cap : Nat} {l : List SentT} (h : SentsAt w ad cap l) : sentShape.At w ad cap l := by
  refine ⟨h.1, fun h0 => ?_⟩
  obtain ⟨b, off, e, hb, hl⟩ := h.2 h0
  refine ⟨b, off, e, hb, fun k hk => ?_⟩
  have hs : sentShape.size = 3 := rfl
  rw [hs] at hk
  have hj : k / 3 < l.length := by omega
  have hi : k % 3 < 3 := Nat.mod_lt _ (by decide)
  have hg : l[k / 3]? = some (l.getD (k / 3) ⟨0, 0, 0⟩) := by rw [List.getD_eq_getElem?_getD, List.getElem?_eq_getElem hj]; rfl
  have := sentShape.flat_at l (k / 3) (k % 3) _ hg hi
  rw [hs, show k / 3 * 3 + k % 3 = k by omega] at this
  rw [this]
  have hc := hl (k / 3) hj
  have h2 : k % 3 = 0 ∨ k % 3 = 1 ∨ k % 3 = 2 := by omega
  rcases h2 with h2 | h2 | h2
  · rw [h2, show off + k = off + k / 3 * 3 by omega, hc.1]
    rfl
  · rw [h2, show off + k = off + k / 3 * 3 + 1 by omega, hc.2.1]
    rfl
  · rw [h2, show off + k = off + k / 3 * 3 + 2 by omega, hc.2.2]
    rfl
theorem sents_from {w : World} {ad : Option Addr} {cap : Nat} {l : List SentT} (h : sentShape.At w ad cap l) : SentsAt w ad cap l := by
  refine ⟨h.1, fun h0 => ?_⟩
  obtain ⟨b, off, e, hb, hl⟩ := h.2 h0
  refine ⟨b, off, e, hb, fun k hk => ?_⟩
  have hs : sentShape.size = 3 := rfl
  have hf := flatS_at l k hk
  have g0 := hl (k * 3) (by rw [hs]; omega)
  have g1 := hl (k * 3 + 1) (by rw [hs]; omega)
  have g2 := hl (k * 3 + 2) (by rw [hs]; omega)
  rw [← Nat.add_assoc] at g1 g2
  exact ⟨g0.trans hf.1, g1.trans hf.2.1, g2.trans hf.2.2⟩
end Go.Proofs.Ytmldedkmmhnihaa
