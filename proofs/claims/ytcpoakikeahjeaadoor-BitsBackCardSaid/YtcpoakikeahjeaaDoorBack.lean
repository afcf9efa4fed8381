/- The walk of corebellkeep.BitsBack: what was put in is there and nothing else changes: it returns true for every set and every two integers. -/
import Derived.Test.YtcpoakikeahjeaaDoorBackA
import Derived.Test.YtcpoakikeahjeaaDoorBackB
import Derived.Test.YtcpoakikeahjeaaDoorBackC
import Derived.Test.YtcpoakikeahjeaaDoorBackD
namespace Go.Proofs.YtcpoakikeahjeaaDoor
open Go.RowKit

theorem bitsBack_walk (a0 a1 a2 a3 : Nat) (n m : Int) (w : World) (ha : Ok a0 a1 a2 a3) (hT : Tab w) :
    Calls Tryd.prog 4 #[.agg #[.int .u64 (a0 : Nat), .int .u64 (a1 : Nat), .int .u64 (a2 : Nat), .int .u64 (a3 : Nat)], .int .i64 n, .int .i64 m] w fun e w' => e = .returned (.bool true) ∧ Below w.heap.size w w' := by
  by_cases h0 : 0 ≤ n
  case neg => exact back_low a0 a1 a2 a3 n m w hT (by omega)
  by_cases h1 : n < 256
  case neg => exact back_high a0 a1 a2 a3 n m w hT (by omega)
  have hp : ∀ x : Int, hasB (up 0 n.toNat a0) (up 1 n.toNat a1) (up 2 n.toNat a2) (up 3 n.toNat a3) x = (hasB a0 a1 a2 a3 x || (n == x)) := fun x => hasB_up h0 h1
  have hr : ∀ x : Int, hasB (dn 0 n.toNat a0) (dn 1 n.toNat a1) (dn 2 n.toNat a2) (dn 3 n.toNat a3) x = (hasB a0 a1 a2 a3 x && !(n == x)) := fun x => hasB_dn h0
  have hk : dn 0 n.toNat (up 0 n.toNat a0) = dn 0 n.toNat a0 ∧ dn 1 n.toNat (up 1 n.toNat a1) = dn 1 n.toNat a1 ∧ dn 2 n.toNat (up 2 n.toNat a2) = dn 2 n.toNat a2 ∧ dn 3 n.toNat (up 3 n.toNat a3) = dn 3 n.toNat a3 :=
    ⟨dn_up _ _ _ ha.1, dn_up _ _ _ ha.2.1, dn_up _ _ _ ha.2.2.1, dn_up _ _ _ ha.2.2.2⟩
  have hnn : (n == n) = true := beq_self_eq_true n
  by_cases hb : hasB a0 a1 a2 a3 n = true
  · by_cases he : (n == m) = true
    · have hnm : n = m := by simpa using he
      have hm : hasB a0 a1 a2 a3 m = true := by rw [← hnm]; exact hb
      exact back_111 a0 a1 a2 a3 _ _ _ _ _ _ _ _ n m w hT ha (ha.up _) (ha.dn _) h0 h1 he ⟨rfl, rfl, rfl, rfl⟩ ⟨rfl, rfl, rfl, rfl⟩ hk (by rw [Hid, hp, hm]; rfl) hm (by rw [Hid, hr, hm, he]; rfl) (by rw [Hid, hp, hnn]; simp) (by rw [Hid, hr, hnn]; simp) hb
    · have he' : (n == m) = false := by simpa using he
      cases hm : hasB a0 a1 a2 a3 m
      · exact back_001 a0 a1 a2 a3 _ _ _ _ _ _ _ _ n m w hT ha (ha.up _) (ha.dn _) h0 h1 he' ⟨rfl, rfl, rfl, rfl⟩ ⟨rfl, rfl, rfl, rfl⟩ hk (by rw [Hid, hp, hm, he']; rfl) hm (by rw [Hid, hr, hm]; rfl) (by rw [Hid, hp, hnn]; simp) (by rw [Hid, hr, hnn]; simp) hb
      · exact back_011 a0 a1 a2 a3 _ _ _ _ _ _ _ _ n m w hT ha (ha.up _) (ha.dn _) h0 h1 he' ⟨rfl, rfl, rfl, rfl⟩ ⟨rfl, rfl, rfl, rfl⟩ hk (by rw [Hid, hp, hm]; rfl) hm (by rw [Hid, hr, hm, he']; rfl) (by rw [Hid, hp, hnn]; simp) (by rw [Hid, hr, hnn]; simp) hb
  · have hb' : hasB a0 a1 a2 a3 n = false := by simpa using hb
    have hmem : mem a0 a1 a2 a3 n.toNat = false := by
      unfold hasB at hb'
      simpa [h0] using hb'
    have hd := dn_none ha hmem
    have hk' : dn 0 n.toNat (up 0 n.toNat a0) = a0 ∧ dn 1 n.toNat (up 1 n.toNat a1) = a1 ∧ dn 2 n.toNat (up 2 n.toNat a2) = a2 ∧ dn 3 n.toNat (up 3 n.toNat a3) = a3 :=
      ⟨hk.1.trans hd.1, hk.2.1.trans hd.2.1, hk.2.2.1.trans hd.2.2.1, hk.2.2.2.trans hd.2.2.2⟩
    by_cases he : (n == m) = true
    · have hnm : n = m := by simpa using he
      have hm : hasB a0 a1 a2 a3 m = false := by rw [← hnm]; exact hb'
      exact back_100 a0 a1 a2 a3 _ _ _ _ n m w hT ha (ha.up _) h0 h1 he ⟨rfl, rfl, rfl, rfl⟩ hd hk' (by rw [Hid, hp, hm, he]; rfl) hm (by rw [Hid, hp, hnn]; simp) hb'
    · have he' : (n == m) = false := by simpa using he
      cases hm : hasB a0 a1 a2 a3 m
      · exact back_000 a0 a1 a2 a3 _ _ _ _ n m w hT ha (ha.up _) h0 h1 he' ⟨rfl, rfl, rfl, rfl⟩ hd hk' (by rw [Hid, hp, hm, he']; rfl) hm (by rw [Hid, hp, hnn]; simp) hb'
      · exact back_010 a0 a1 a2 a3 _ _ _ _ n m w hT ha (ha.up _) h0 h1 he' ⟨rfl, rfl, rfl, rfl⟩ hd hk' (by rw [Hid, hp, hm]; rfl) hm (by rw [Hid, hp, hnn]; simp) hb'
end Go.Proofs.YtcpoakikeahjeaaDoor
