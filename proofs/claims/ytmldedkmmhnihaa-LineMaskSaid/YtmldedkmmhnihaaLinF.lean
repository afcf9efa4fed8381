/- corebellkeep.alive3; slices.Equal at lines and at what is sent, the length under another name. -/
import Derived.Test.YtmldedkmmhnihaaLinE
namespace Go.Proofs.Ytmldedkmmhnihaa
open Go.RowKit

theorem equalP_N {a1 a2 : Option Addr} {c1 c2 n : Nat} {l : List PinT} (w : World) (hn : Hid (l.length = n)) (h1 : PinsAt w a1 c1 l) (h2 : PinsAt w a2 c2 l) (hl : n ≤ 9223372036854775807) :
    Calls Try.prog 10 #[.slice a1 n c1, .slice a2 n c2] w fun e w' => e = .returned (.bool true) ∧ Below w.heap.size w w' := by
  have h := hn.out
  subst h
  exact equalP_U w h1 h2 hl
theorem equalS_N {a1 a2 : Option Addr} {c1 c2 n : Nat} {l : List SentT} (w : World) (hn : Hid (l.length = n)) (h1 : SentsAt w a1 c1 l) (h2 : SentsAt w a2 c2 l) (hl : n ≤ 9223372036854775807) :
    Calls Try.prog 11 #[.slice a1 n c1, .slice a2 n c2] w fun e w' => e = .returned (.bool true) ∧ Below w.heap.size w w' := by
  have h := hn.out
  subst h
  exact equalS_U w h1 h2 hl
theorem right_N {ad : Option Addr} {cap n : Nat} {l : List PinT} (w : World) (h : PinsAt w ad cap l) (hn : Hid (l.length = n)) (hl : n ≤ 9223372036854775807) (r : Bool) (hr : pinsOk l = r) :
    Calls Try.prog 13 #[.slice ad n cap] w fun e w' => e = .returned (.bool r) ∧ Below w.heap.size w w' := by
  have e := hn.out
  subst e
  exact right_U w h hl r hr
theorem pair_new (w : World) (x y : Value) (T : TypeId) : (w.alloc (.cells #[x, y] T)).cell? ⟨w.heap.size, 0, none⟩ = some x ∧ (w.alloc (.cells #[x, y] T)).cell? ⟨w.heap.size, 1, none⟩ = some y :=
  ⟨by rw [cell_of_row _ _ _ _ _ _ (heap_alloc_new _ _)]; rfl, by rw [cell_of_row _ _ _ _ _ _ (heap_alloc_new _ _)]; rfl⟩
theorem pins_lit {w : World} {b T cap : Nat} (l : List PinT) (hh : w.heap[b]? = some (.cells (flatP l).toArray T (0, 0))) : PinsAt w (some ⟨b, 0, none⟩) cap l :=
  ⟨fun e => (nomatch e), fun _ => ⟨b, 0, rfl, (Array.getElem?_eq_some_iff.1 hh).1, fun j hj i hi => by
    rw [cell_of_row w b _ _ _ _ hh, Nat.zero_add, List.getElem?_toArray]
    exact flatP_at l j i hj hi⟩⟩
theorem sents_lit {w : World} {b T cap : Nat} (l : List SentT) (hh : w.heap[b]? = some (.cells (flatS l).toArray T (0, 0))) : SentsAt w (some ⟨b, 0, none⟩) cap l :=
  ⟨fun e => (nomatch e), fun _ => ⟨b, 0, rfl, (Array.getElem?_eq_some_iff.1 hh).1, fun j hj => by
    have := flatS_at l j hj
    rw [cell_of_row w b _ _ _ _ hh, cell_of_row w b _ _ _ _ hh, cell_of_row w b _ _ _ _ hh, Nat.zero_add, List.getElem?_toArray, List.getElem?_toArray, List.getElem?_toArray]
    exact this⟩⟩
def flatO (l : List (Int × Int)) : List Value := l.flatMap fun p => [.int .i64 p.1, .int .i64 p.2]
theorem flatO_at (l : List (Int × Int)) : ∀ j, j < l.length → (flatO l)[j * 2]? = some (.int .i64 (l.getD j (0, 0)).1) ∧ (flatO l)[j * 2 + 1]? = some (.int .i64 (l.getD j (0, 0)).2) := by
  induction l with
  | nil => intro j hj; simp at hj
  | cons p r ih =>
    intro j hj
    have e : flatO (p :: r) = [.int .i64 p.1, .int .i64 p.2] ++ flatO r := rfl
    rw [e]
    cases j with
    | zero => exact ⟨rfl, rfl⟩
    | succ j =>
      have := ih j (by simpa using hj)
      refine ⟨?_, ?_⟩
      · rw [List.getElem?_append_right (by simp; omega)]
        simp only [List.length_cons, List.length_nil]
        rw [show (j + 1) * 2 - (0 + 1 + 1) = j * 2 by omega, this.1]
        rfl
      · rw [List.getElem?_append_right (by simp; omega)]
        simp only [List.length_cons, List.length_nil]
        rw [show (j + 1) * 2 + 1 - (0 + 1 + 1) = j * 2 + 1 by omega, this.2]
        rfl
def kOf (l : List (Int × Int)) (k : Nat) : Int := (l.getD k (0, 0)).1
def nOf (l : List (Int × Int)) (k : Nat) : Int := (l.getD k (0, 0)).2
theorem ops_lit {w : World} {b T cap : Nat} (l : List (Int × Int)) (hh : w.heap[b]? = some (.cells (flatO l).toArray T (0, 0))) : OpsAt w (some ⟨b, 0, none⟩) cap (kOf l) (nOf l) l.length :=
  ⟨fun e => (nomatch e), fun _ => ⟨b, 0, rfl, (Array.getElem?_eq_some_iff.1 hh).1, fun j hj => by
    have := flatO_at l j hj
    rw [cell_of_row w b _ _ _ _ hh, cell_of_row w b _ _ _ _ hh, Nat.zero_add, List.getElem?_toArray, List.getElem?_toArray]
    exact this⟩⟩
def alP : List PinT := [⟨0, 40, false, false, false, false, false⟩, ⟨1, 50, true, false, false, false, false⟩]
def alO : List (Int × Int) := [(3, 0), (1, 0), (4, 0), (1, 1), (5, 1)]
def alS : List SentT := [⟨0, 0, 40⟩, ⟨1, 1, 50⟩, ⟨1, 1, 50⟩]
theorem al_plays : ∃ out, playTo alP (kOf alO) (nOf alO) 5 = (out, alS) := ⟨_, rfl⟩
set_option maxHeartbeats 4000000 in
set_option maxRecDepth 100000 in
theorem alive3_R (w : World) : Calls Try.prog 12 #[] w fun e w' => e = .returned (.bool true) ∧ Below w.heap.size w w' := by
  obtain ⟨out, hp⟩ := al_plays
  obtain ⟨ss, hss⟩ : ∃ ss, ss = alS := ⟨_, rfl⟩
  rw [← hss] at hp
  have HP := Lib.hid hp
  have HSV : Hid (∀ w : World, SentsAt (w.alloc (.cells #[.int .i64 0, .int .i64 0, .int .i64 40, .int .i64 1, .int .i64 1, .int .i64 50, .int .i64 1, .int .i64 1, .int .i64 50] 36)) (some ⟨w.heap.size, 0, none⟩) 3 ss) := Lib.hid fun w => by rw [hss]; exact sents_lit alS (heap_alloc_new _ _)
  have HS3 : Hid (ss.length = 3) := Lib.hid (by rw [hss]; rfl)
  have HL2 : Hid (alP.length = 2) := Lib.hid rfl
  have rok : pinsOk alP = true := rfl
  have e1 : (w.alloc (.cells #[.int .i64 0, .int .i64 40, .bool false, .bool false, .bool false, .bool false, .bool false, .int .i64 1, .int .i64 50, .bool true, .bool false, .bool false, .bool false, .bool false] 33)).heap.size = w.heap.size + 1 := by simp
  have PA : PinsAt ((w.alloc (.cells #[.int .i64 0, .int .i64 40, .bool false, .bool false, .bool false, .bool false, .bool false, .int .i64 1, .int .i64 50, .bool true, .bool false, .bool false, .bool false, .bool false] 33)).alloc (.cells #[.int .i64 3, .int .i64 0, .int .i64 1, .int .i64 0, .int .i64 4, .int .i64 0, .int .i64 1, .int .i64 1, .int .i64 5, .int .i64 1] 41)) (some ⟨w.heap.size, 0, none⟩) 2 alP := (pins_lit alP (heap_alloc_new w _)).step (below_alloc _ _)
  have PO : OpsAt ((w.alloc (.cells #[.int .i64 0, .int .i64 40, .bool false, .bool false, .bool false, .bool false, .bool false, .int .i64 1, .int .i64 50, .bool true, .bool false, .bool false, .bool false, .bool false] 33)).alloc (.cells #[.int .i64 3, .int .i64 0, .int .i64 1, .int .i64 0, .int .i64 4, .int .i64 0, .int .i64 1, .int .i64 1, .int .i64 5, .int .i64 1] 41)) (some ⟨w.heap.size + 1, 0, none⟩) 5 (kOf alO) (nOf alO) 5 := by
    rw [← e1]
    exact ops_lit alO (heap_alloc_new _ _)
  have HPA := Lib.hid PA
  have HPO := Lib.hid PO
  clear hp hss e1 PA PO
  go_enter Try.func12, Try.ntmps12
  go_wp2_with (first
    | (go_at_call 7; (with_reducible refine (play_U _ HPA HPO rok (by decide) out ss HP 2 HL2).mono ?_); rintro e wn ⟨ra, rc, sa, sc, rfl, RA, SA, hl1, hl2, hb⟩; have B := pstep (below_more (below_more (Below.refl _ _) _) _) hb; have S := B.size; rw [HS3.out]; clear hb)
    | (go_at_call 11; (with_reducible refine (equalS_N _ HS3 (SA.step (below_alloc _ _)) (HSV.out _) (by decide)).mono ?_); rintro e wn ⟨rfl, hb⟩; have B := pstep (below_more B _) hb; clear hb)
    | fail)
  go_ret
  exact ⟨rfl, B⟩
end Go.Proofs.Ytmldedkmmhnihaa
