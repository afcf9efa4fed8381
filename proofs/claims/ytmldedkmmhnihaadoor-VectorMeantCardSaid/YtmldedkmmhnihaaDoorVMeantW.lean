/- VectorMeant in the words of its arguments. -/
import Derived.Test.YtmldedkmmhnihaaDoorVMeantB
import Derived.Test.YtmldedkmmhnihaaDoorVecO
namespace Go.Proofs.YtmldedkmmhnihaaDoor
open Go.RowKit
theorem vectorMeant_R {ad : Option Addr} {cap m : Nat} {ops : List VopT} (w : World) (hT : Hid (Tab w)) (C N K L M : Int) (HA : Hid (shO.At w ad cap ops)) (hm : Hid (ops.length = m)) (hm2 : m ≤ 5864062014634) :
    Calls Tryd.prog 3 #[.int .i64 C, .int .i64 N, .slice ad m cap, .agg #[.int .i64 K, .int .i64 L, .int .i64 M]] w fun e w' => e = .returned (.bool true) ∧ Below w.heap.size w w' := by
  by_cases hb : C < 1 ∨ 8 < C ∨ N < 0 ∨ 2000 < N
  · exact vmeant_bad w hT C N K L M HA hm hm2 hb
  obtain ⟨c, rfl⟩ : ∃ c : Nat, C = c := ⟨C.toNat, by omega⟩
  obtain ⟨n, rfl⟩ : ∃ n : Nat, N = n := ⟨N.toNat, by omega⟩
  obtain ⟨⟨l, es⟩, hr⟩ : ∃ r, runV c n ops = r := ⟨_, rfl⟩
  obtain ⟨⟨l2, e⟩, hs⟩ : ∃ r, stepV c l ⟨K, L, M⟩ = r := ⟨_, rfl⟩
  have hg := run_good c n ops
  rw [hr] at hg
  simp only at hg
  obtain ⟨hg1, hg2, hg3⟩ := hg
  have hr2 : runV c n (ops ++ [⟨K, L, M⟩]) = (l2, es ++ [e]) := by
    rw [runV_snoc, hr]
    unfold nextV
    rw [hs]
  have hx : (es ++ [e])[m]? = some e := by rw [← hm.out, ← hg3]; simp
  refine vmeant_ok w hT c n (by omega) (by omega) (by omega) K L M HA hm hm2 l l2 es (es ++ [e]) (Lib.hid hr) (Lib.hid hr2) (Lib.hid hg2) (Lib.hid ?_)
  by_cases he : e = 0
  · subst he
    obtain ⟨i, hL, hi, ho, hc⟩ := step_meant hs
    refine Or.inr ⟨hx, i, hL, by omega, ho, ?_⟩
    rcases hc with ⟨hK, h2⟩ | ⟨c1, v1, h1, hc1, hal, hK⟩
    · exact Or.inl ⟨hK, h2⟩
    · have hsh := (shr_allow M c1 (by omega)).2 hal
      rcases hK with hK | ⟨hK, hne⟩
      · exact Or.inr (Or.inl ⟨hK, c1, v1, by omega, h1, hsh⟩)
      · exact Or.inr (Or.inr ⟨hK, c1, v1, (l.getD i zs).core, (l.getD i zs).vec, by omega, h1, getD_of hi, hne, hsh⟩)
  · exact Or.inl ⟨e, hx, he, step_refused hs he⟩
theorem vectorMeant_walk (C N : Int) (v : Value) (K L M : Int) (W : World) (hv : ArgV W v) (hl : lenOf v ≤ 5864062014634) (hT : Tab W) :
    Calls Tryd.prog 3 #[.int .i64 C, .int .i64 N, v, .agg #[.int .i64 K, .int .i64 L, .int .i64 M]] W fun e w' => e = .returned (.bool true) ∧ Below W.heap.size W w' := by
  obtain ⟨ad, cap, l, rfl, h⟩ := hv
  exact vectorMeant_R W (Lib.hid hT) C N K L M (Lib.hid h) (Lib.hid rfl) hl
end Go.Proofs.YtmldedkmmhnihaaDoor
