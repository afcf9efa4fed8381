/- The walk of VectorFull. -/
import Derived.Test.YtmldedkmmhnihaaDoorVecAl
import Derived.Test.YtmldedkmmhnihaaDoorVecF
namespace Go.Proofs.YtmldedkmmhnihaaDoor
open Go.RowKit

theorem own_at {w : World} {base m rc : Nat} {ra : Option Addr} {e : TypeId} {l : List VopT} (h : w.ownsRow base e 3 (.slice ra m rc) m (shO.flat l)) (hm : l.length = m) : shO.At w ra rc l := by
  subst hm
  obtain ⟨ad, cap, hv, h⟩ := Shape.At.of_row (S := shO) h
  simp only [Value.slice.injEq] at hv
  obtain ⟨rfl, _, rfl⟩ := hv
  exact h
theorem lit1 (w : World) (K L M : Int) {cap : Nat} : shO.At (w.alloc (.cells #[.int .i64 K, .int .i64 L, .int .i64 M] 24)) (some ⟨w.heap.size, 0, none⟩) cap [⟨K, L, M⟩] := Shape.At.lit (S := shO) [⟨K, L, M⟩] (heap_alloc_new w _)
theorem below_more {W w : World} (h : Below W.heap.size W w) (o : Obj) : Below W.heap.size W (w.alloc o) := h.alloc h.size o
/-- 'uint64(mask)>>c%2 == 1'. -/
theorem shr_allow (m : Int) (c : Nat) (hc : c < 8) : (IntKind.u64.wrap m / 2 ^ c).tmod 2 = 1 ↔ allow m c = true := by
  unfold allow
  rw [decide_eq_true_iff, IntKind.wrap_u64]
  have h8 : c = 0 ∨ c = 1 ∨ c = 2 ∨ c = 3 ∨ c = 4 ∨ c = 5 ∨ c = 6 ∨ c = 7 := by omega
  have h0 : 0 ≤ m % 18446744073709551616 := Int.emod_nonneg _ (by decide)
  have h1 : 0 ≤ m % 18446744073709551616 / 2 ^ c := Int.ediv_nonneg h0 (Int.pow_nonneg (by decide))
  rw [Int.tmod_eq_emod_of_nonneg h1]
  rcases h8 with rfl | rfl | rfl | rfl | rfl | rfl | rfl | rfl <;> simp only [Int.reducePow] <;> omega
theorem own_alloc {w : World} {base e size n : Nat} {v : Value} {xs : List Value} (h : w.ownsRow base e size v n xs) (o : Obj) : (w.alloc o).ownsRow base e size v n xs := by
  obtain ⟨h1, h2⟩ := h
  refine ⟨h1, ?_⟩
  rcases h2 with h2 | ⟨g, cap, cur, hv, hg, hh, r⟩
  · exact Or.inl h2
  · exact Or.inr ⟨g, cap, cur, hv, hg, by rw [Below.heap_alloc _ _ _ ((Array.getElem?_eq_some_iff.1 hh).1)]; exact hh, r⟩
/-- What is behind 'append(slices.Clone(ops), o)': the operations and one more, in memory of the call's own. -/
theorem more_at {w2 w3 w4 : World} {ra ra2 : Option Addr} {m rc rc2 : Nat} {ops : List VopT} {o : VopT} {ob : Obj} (hm : ops.length = m) (hb : Below w2.heap.size w2 w3) (own3 : w3.ownsRow w2.heap.size 24 3 (.slice ra m rc) m (shO.flat ops)) (own4 : w4.ownsRow w2.heap.size 24 3 (.slice ra2 (m + 1) rc2) (m + 1) (shO.flat (ops ++ [o]))) (grow : (w3.alloc ob).grownBy w4 (Value.slice ra m rc).ownBlock) :
    shO.At w4 ra2 rc2 (ops ++ [o]) ∧ Below w2.heap.size w2 w4 := by
  have hs := hb.size
  exact ⟨own_at own4 (by simp [hm]), (hb.alloc hs ob).grown grow (by simp; omega) (fun k hk => (own3.lt k hk).1)⟩
set_option maxHeartbeats 1000000 in
set_option maxRecDepth 100000 in
theorem vfull_bad {ad : Option Addr} {cap m : Nat} {ops : List VopT} (w : World) (hT : Hid (Tab w)) (C N L M : Int) (h : C < 1 ∨ 8 < C ∨ N < 0 ∨ 2000 < N) (HA : Hid (shO.At w ad cap ops)) (hm : Hid (ops.length = m)) (hm2 : m ≤ 5864062014634) :
    Calls Tryd.prog 4 #[.int .i64 C, .int .i64 N, .slice ad m cap, .int .i64 L, .int .i64 M] w fun e w' => e = .returned (.bool true) ∧ Below w.heap.size w w' := by
  have HB := Lib.hid h
  clear h
  obtain ⟨i0, hi, hz0, hz1, hz2⟩ := info_parts info_op
  go_enter Tryd.func4, Tryd.ntmps4
  go_wp2_with (first
    | (go_at_call 5; (with_reducible refine (alive4_R _ hT).mono ?_); rintro e w1 ⟨rfl, hb⟩; have B1 := hb; have HA1 := Lib.hid (HA.out.step hb); have HT1 := Lib.hid (tab_step hT.out hb); clear hb)
    | (go_at_call 6; (with_reducible refine (play_bad C N _ _ HB.out).mono ?_); rintro e w2 ⟨rfl, hb⟩; have B2 := pstep B1 hb; have HA2 := Lib.hid (HA1.out.step hb); have HT2 := Lib.hid (tab_step HT1.out hb); clear hb)
    | (go_at_call 7; (with_reducible refine (clone_ops ops ad m cap _ hm HA2 hm2).mono ?_); rintro e w3 ⟨ra, rc, rfl, own, hb⟩; have B3 := Lib.hid hb; have S3 := hb.size; have OW := Lib.hid own; have OWN := Lib.hid (own_alloc own (.cells #[.int .i64 1, .int .i64 L, .int .i64 M] 24)); clear hb own)
    | (at_builtin; refine wpList_append_at shO rfl _ _ 22 rfl w2.heap.size 24 i0 _ 24 Tryd.underlying22 hi hz0 hz1 hz2 rfl (.slice ra m rc) ops [⟨1, L, M⟩] rfl ?own (some ⟨_, 0, none⟩) 1 1 rfl (Lib.hid rfl) (lit1 _ _ _ _) ?h63 ?hby ?hba ?_)
    | fail)
  case own => rw [hm.out]; exact OWN.out
  case h63 => rw [hm.out]; unfold maxLen; omega
  case hby => rw [hm.out]; omega
  case hba => simp; omega
  rw [hm.out]
  intro ra2 rc2 w4 own4 grow4 _
  obtain ⟨at4, b24⟩ := more_at hm.out B3.out OW.out own4 grow4
  have B4 := pstep B2 b24
  have HA4 := Lib.hid at4
  have HT4 := Lib.hid (tab_step HT2.out b24)
  have HM4 : Hid ((ops ++ [(⟨1, L, M⟩ : VopT)]).length = m + 1) := Lib.hid (by simp [hm.out])
  skip
  clear own4 grow4 at4 b24 OWN OW B3 S3
  go_wp2_with (first
    | (go_at_call 6; (with_reducible refine (play_bad C N _ _ HB.out).mono ?_); rintro e w5 ⟨rfl, hb⟩; have B5 := pstep B4 hb; clear hb)
    | fail)
  go_ret
  exact ⟨rfl, B5⟩
set_option maxHeartbeats 1000000 in
set_option maxRecDepth 100000 in
theorem vfull_lo {ad : Option Addr} {cap m : Nat} {ops : List VopT} (w : World) (hT : Hid (Tab w)) (cores n : Nat) (h1 : 1 ≤ cores) (h8 : cores ≤ 8) (hn : n ≤ 2000) (L M : Int) (hL : L < 0) (HA : Hid (shO.At w ad cap ops)) (hm : Hid (ops.length = m)) (hm2 : m ≤ 5864062014634) (l l2 : List SlotT) (es es2 : List Int) (HR : Hid (runV cores n ops = (l, es))) (HR2 : Hid (runV cores n (ops ++ [⟨1, L, M⟩]) = (l2, es2))) :
    Calls Tryd.prog 4 #[.int .i64 cores, .int .i64 n, .slice ad m cap, .int .i64 L, .int .i64 M] w fun e w' => e = .returned (.bool true) ∧ Below w.heap.size w w' := by
  obtain ⟨i0, hi, hz0, hz1, hz2⟩ := info_parts info_op
  go_enter Tryd.func4, Tryd.ntmps4
  go_wp2_with (first
    | (go_at_call 5; (with_reducible refine (alive4_R _ hT).mono ?_); rintro e w1 ⟨rfl, hb⟩; have B1 := hb; have HA1 := Lib.hid (HA.out.step hb); have HT1 := Lib.hid (tab_step hT.out hb); clear hb)
    | (go_at_call 6; (with_reducible refine (play_ok _ HT1 cores n h1 h8 hn HA1 hm (by omega) l es HR).mono ?_); rintro e w2 ⟨ea, ec, sa, sc, rfl, EA, SA, hb⟩; have B2 := pstep B1 hb; have HA2 := Lib.hid (HA1.out.step hb); have HT2 := Lib.hid (tab_step HT1.out hb); have HS2 := Lib.hid SA; clear hb EA SA)
    | (go_at_call 7; (with_reducible refine (clone_ops ops ad m cap _ hm HA2 hm2).mono ?_); rintro e w3 ⟨ra, rc, rfl, own, hb⟩; have B3 := Lib.hid hb; have S3 := hb.size; have OW := Lib.hid own; have OWN := Lib.hid (own_alloc own (.cells #[.int .i64 1, .int .i64 L, .int .i64 M] 24)); clear hb own)
    | (at_builtin; refine wpList_append_at shO rfl _ _ 22 rfl w2.heap.size 24 i0 _ 24 Tryd.underlying22 hi hz0 hz1 hz2 rfl (.slice ra m rc) ops [⟨1, L, M⟩] rfl ?own (some ⟨_, 0, none⟩) 1 1 rfl (Lib.hid rfl) (lit1 _ _ _ _) ?h63 ?hby ?hba ?_)
    | fail)
  case own => rw [hm.out]; exact OWN.out
  case h63 => rw [hm.out]; unfold maxLen; omega
  case hby => rw [hm.out]; omega
  case hba => simp; omega
  rw [hm.out]
  intro ra2 rc2 w4 own4 grow4 _
  obtain ⟨at4, b24⟩ := more_at hm.out B3.out OW.out own4 grow4
  have B4 := pstep B2 b24
  have HA4 := Lib.hid at4
  have HT4 := Lib.hid (tab_step HT2.out b24)
  have HM4 : Hid ((ops ++ [(⟨1, L, M⟩ : VopT)]).length = m + 1) := Lib.hid (by simp [hm.out])
  have HS4 := Lib.hid (HS2.out.step b24)
  clear own4 grow4 at4 b24 OWN OW B3 S3
  go_wp2_with (first
    | (go_at_call 6; (with_reducible refine (play_ok _ HT4 cores n h1 h8 hn HA4 HM4 (by omega) l2 es2 HR2).mono ?_); rintro e w5 ⟨ea2, ec2, sa2, sc2, rfl, EA, SA, hb⟩; have B5 := pstep B4 hb; have HS5 := Lib.hid (HS4.out.step hb); have HE5 := Lib.hid EA; have HS6 := Lib.hid SA; clear hb EA SA)
    | fail)
  go_ret
  exact ⟨rfl, B5⟩
set_option maxHeartbeats 1000000 in
set_option maxRecDepth 100000 in
theorem vfull_hi {ad : Option Addr} {cap m : Nat} {ops : List VopT} (w : World) (hT : Hid (Tab w)) (cores n : Nat) (h1 : 1 ≤ cores) (h8 : cores ≤ 8) (hn : n ≤ 2000) (L M : Int) (hL : ¬ L < 0) (hL2 : (n : Int) ≤ L) (HA : Hid (shO.At w ad cap ops)) (hm : Hid (ops.length = m)) (hm2 : m ≤ 5864062014634) (l l2 : List SlotT) (es es2 : List Int) (HR : Hid (runV cores n ops = (l, es))) (HR2 : Hid (runV cores n (ops ++ [⟨1, L, M⟩]) = (l2, es2))) :
    Calls Tryd.prog 4 #[.int .i64 cores, .int .i64 n, .slice ad m cap, .int .i64 L, .int .i64 M] w fun e w' => e = .returned (.bool true) ∧ Below w.heap.size w w' := by
  obtain ⟨i0, hi, hz0, hz1, hz2⟩ := info_parts info_op
  go_enter Tryd.func4, Tryd.ntmps4
  go_wp2_with (first
    | (go_at_call 5; (with_reducible refine (alive4_R _ hT).mono ?_); rintro e w1 ⟨rfl, hb⟩; have B1 := hb; have HA1 := Lib.hid (HA.out.step hb); have HT1 := Lib.hid (tab_step hT.out hb); clear hb)
    | (go_at_call 6; (with_reducible refine (play_ok _ HT1 cores n h1 h8 hn HA1 hm (by omega) l es HR).mono ?_); rintro e w2 ⟨ea, ec, sa, sc, rfl, EA, SA, hb⟩; have B2 := pstep B1 hb; have HA2 := Lib.hid (HA1.out.step hb); have HT2 := Lib.hid (tab_step HT1.out hb); have HS2 := Lib.hid SA; clear hb EA SA)
    | (go_at_call 7; (with_reducible refine (clone_ops ops ad m cap _ hm HA2 hm2).mono ?_); rintro e w3 ⟨ra, rc, rfl, own, hb⟩; have B3 := Lib.hid hb; have S3 := hb.size; have OW := Lib.hid own; have OWN := Lib.hid (own_alloc own (.cells #[.int .i64 1, .int .i64 L, .int .i64 M] 24)); clear hb own)
    | (at_builtin; refine wpList_append_at shO rfl _ _ 22 rfl w2.heap.size 24 i0 _ 24 Tryd.underlying22 hi hz0 hz1 hz2 rfl (.slice ra m rc) ops [⟨1, L, M⟩] rfl ?own (some ⟨_, 0, none⟩) 1 1 rfl (Lib.hid rfl) (lit1 _ _ _ _) ?h63 ?hby ?hba ?_)
    | fail)
  case own => rw [hm.out]; exact OWN.out
  case h63 => rw [hm.out]; unfold maxLen; omega
  case hby => rw [hm.out]; omega
  case hba => simp; omega
  rw [hm.out]
  intro ra2 rc2 w4 own4 grow4 _
  obtain ⟨at4, b24⟩ := more_at hm.out B3.out OW.out own4 grow4
  have B4 := pstep B2 b24
  have HA4 := Lib.hid at4
  have HT4 := Lib.hid (tab_step HT2.out b24)
  have HM4 : Hid ((ops ++ [(⟨1, L, M⟩ : VopT)]).length = m + 1) := Lib.hid (by simp [hm.out])
  have HS4 := Lib.hid (HS2.out.step b24)
  clear own4 grow4 at4 b24 OWN OW B3 S3
  go_wp2_with (first
    | (go_at_call 6; (with_reducible refine (play_ok _ HT4 cores n h1 h8 hn HA4 HM4 (by omega) l2 es2 HR2).mono ?_); rintro e w5 ⟨ea2, ec2, sa2, sc2, rfl, EA, SA, hb⟩; have B5 := pstep B4 hb; have HS5 := Lib.hid (HS4.out.step hb); have HE5 := Lib.hid EA; have HS6 := Lib.hid SA; clear hb EA SA)
    | fail)
  go_ret
  exact ⟨rfl, B5⟩
set_option maxHeartbeats 1000000 in
set_option maxRecDepth 100000 in
theorem vfull_held {ad : Option Addr} {cap m : Nat} {ops : List VopT} (w : World) (hT : Hid (Tab w)) (cores n : Nat) (h1 : 1 ≤ cores) (h8 : cores ≤ 8) (hn : n ≤ 2000) (k : Nat) (M : Int) (hk : k < n) (HA : Hid (shO.At w ad cap ops)) (hm : Hid (ops.length = m)) (hm2 : m ≤ 5864062014634) (l l2 : List SlotT) (es es2 : List Int) (HR : Hid (runV cores n ops = (l, es))) (HR2 : Hid (runV cores n (ops ++ [⟨1, (k : Int), M⟩]) = (l2, es2))) (sc sv : Nat) (HKS : Hid (l[k]? = some ⟨sc, sv⟩)) (hv : 0 < sv) :
    Calls Tryd.prog 4 #[.int .i64 cores, .int .i64 n, .slice ad m cap, .int .i64 (k : Int), .int .i64 M] w fun e w' => e = .returned (.bool true) ∧ Below w.heap.size w w' := by
  have hd0 : ¬ (k : Int) < 0 := by omega
  have hd1 : ¬ (n : Int) ≤ (k : Int) := by omega
  have hd2 : decide ((k : Int) < 0) = false := decide_eq_false (by omega)
  have hd3 : decide (n ≤ k) = false := decide_eq_false (by omega)
  obtain ⟨i0, hi, hz0, hz1, hz2⟩ := info_parts info_op
  go_enter Tryd.func4, Tryd.ntmps4
  go_wp2_with (first
    | (go_at_call 5; (with_reducible refine (alive4_R _ hT).mono ?_); rintro e w1 ⟨rfl, hb⟩; have B1 := hb; have HA1 := Lib.hid (HA.out.step hb); have HT1 := Lib.hid (tab_step hT.out hb); clear hb)
    | (go_at_call 6; (with_reducible refine (play_ok _ HT1 cores n h1 h8 hn HA1 hm (by omega) l es HR).mono ?_); rintro e w2 ⟨ea, ec, sa, sc, rfl, EA, SA, hb⟩; have B2 := pstep B1 hb; have HA2 := Lib.hid (HA1.out.step hb); have HT2 := Lib.hid (tab_step HT1.out hb); have HS2 := Lib.hid SA; clear hb EA SA)
    | (go_at_call 7; (with_reducible refine (clone_ops ops ad m cap _ hm HA2 hm2).mono ?_); rintro e w3 ⟨ra, rc, rfl, own, hb⟩; have B3 := Lib.hid hb; have S3 := hb.size; have OW := Lib.hid own; have OWN := Lib.hid (own_alloc own (.cells #[.int .i64 1, .int .i64 (k : Int), .int .i64 M] 24)); clear hb own)
    | (at_builtin; refine wpList_append_at shO rfl _ _ 22 rfl w2.heap.size 24 i0 _ 24 Tryd.underlying22 hi hz0 hz1 hz2 rfl (.slice ra m rc) ops [⟨1, (k : Int), M⟩] rfl ?own (some ⟨_, 0, none⟩) 1 1 rfl (Lib.hid rfl) (lit1 _ _ _ _) ?h63 ?hby ?hba ?_)
    | fail)
  case own => rw [hm.out]; exact OWN.out
  case h63 => rw [hm.out]; unfold maxLen; omega
  case hby => rw [hm.out]; omega
  case hba => simp; omega
  rw [hm.out]
  intro ra2 rc2 w4 own4 grow4 _
  obtain ⟨at4, b24⟩ := more_at hm.out B3.out OW.out own4 grow4
  have B4 := pstep B2 b24
  have HA4 := Lib.hid at4
  have HT4 := Lib.hid (tab_step HT2.out b24)
  have HM4 : Hid ((ops ++ [(⟨1, (k : Int), M⟩ : VopT)]).length = m + 1) := Lib.hid (by simp [hm.out])
  have HS4 := Lib.hid (HS2.out.step b24)
  clear own4 grow4 at4 b24 OWN OW B3 S3
  go_wp2_with (first
    | (go_at_call 6; (with_reducible refine (play_ok _ HT4 cores n h1 h8 hn HA4 HM4 (by omega) l2 es2 HR2).mono ?_); rintro e w5 ⟨ea2, ec2, sa2, sc2, rfl, EA, SA, hb⟩; have B5 := pstep B4 hb; have HS5 := Lib.hid (HS4.out.step hb); have HE5 := Lib.hid EA; have HS6 := Lib.hid SA; clear hb EA SA; obtain ⟨sb, so, hsa, hsb, c0, c1⟩ := at_slot HS5.out HKS.out; subst hsa; clear c0)
    | fail)
  go_ret
  exact ⟨rfl, B5⟩
set_option maxHeartbeats 1000000 in
set_option maxRecDepth 100000 in
theorem vfull_main {ad : Option Addr} {cap m : Nat} {ops : List VopT} (w : World) (hT : Hid (Tab w)) (cores n : Nat) (h1 : 1 ≤ cores) (h8 : cores ≤ 8) (hn : n ≤ 2000) (k : Nat) (M : Int) (hk : k < n) (HA : Hid (shO.At w ad cap ops)) (hm : Hid (ops.length = m)) (hm2 : m ≤ 5864062014634) (l l2 : List SlotT) (es es2 : List Int) (HR : Hid (runV cores n ops = (l, es))) (HR2 : Hid (runV cores n (ops ++ [⟨1, (k : Int), M⟩]) = (l2, es2))) (sc : Nat) (HKS : Hid (l[k]? = some ⟨sc, 0⟩)) :
    Calls Tryd.prog 4 #[.int .i64 cores, .int .i64 n, .slice ad m cap, .int .i64 (k : Int), .int .i64 M] w fun e w' => e = .returned (.bool true) ∧ Below w.heap.size w w' := by
  have hd0 : ¬ (k : Int) < 0 := by omega
  have hd1 : ¬ (n : Int) ≤ (k : Int) := by omega
  have hd2 : decide ((k : Int) < 0) = false := decide_eq_false (by omega)
  have hd3 : decide (n ≤ k) = false := decide_eq_false (by omega)
  have hll : Hid (l.length = n) := by
    have := (run_good cores n ops).2.1
    rw [HR.out] at this
    exact Lib.hid this
  have HXX : Hid (es2[m]? = some (if roomV l M cores = true then 0 else 4)) := by
    have hg := (run_good cores n ops).2.2
    have h2 := HR2.out
    rw [runV_snoc, HR.out] at h2
    rw [HR.out] at hg
    unfold nextV at h2
    simp only [Prod.mk.injEq] at h2 hg
    have hz : (l.getD k zs).vec = 0 := by rw [of_getElem? HKS.out]
    rw [← h2.2, take_full (by rw [hll.out]; exact hk) hz, ← hm.out, ← hg]
    exact Lib.hid (by simp)
  obtain ⟨i0, hi, hz0, hz1, hz2⟩ := info_parts info_op
  go_enter Tryd.func4, Tryd.ntmps4
  go_wp2_with (first
    | (go_at_call 5; (with_reducible refine (alive4_R _ hT).mono ?_); rintro e w1 ⟨rfl, hb⟩; have B1 := hb; have HA1 := Lib.hid (HA.out.step hb); have HT1 := Lib.hid (tab_step hT.out hb); clear hb)
    | (go_at_call 6; (with_reducible refine (play_ok _ HT1 cores n h1 h8 hn HA1 hm (by omega) l es HR).mono ?_); rintro e w2 ⟨ea, ec, sa, sc, rfl, EA, SA, hb⟩; have B2 := pstep B1 hb; have HA2 := Lib.hid (HA1.out.step hb); have HT2 := Lib.hid (tab_step HT1.out hb); have HS2 := Lib.hid SA; clear hb EA SA)
    | (go_at_call 7; (with_reducible refine (clone_ops ops ad m cap _ hm HA2 hm2).mono ?_); rintro e w3 ⟨ra, rc, rfl, own, hb⟩; have B3 := Lib.hid hb; have S3 := hb.size; have OW := Lib.hid own; have OWN := Lib.hid (own_alloc own (.cells #[.int .i64 1, .int .i64 (k : Int), .int .i64 M] 24)); clear hb own)
    | (at_builtin; refine wpList_append_at shO rfl _ _ 22 rfl w2.heap.size 24 i0 _ 24 Tryd.underlying22 hi hz0 hz1 hz2 rfl (.slice ra m rc) ops [⟨1, (k : Int), M⟩] rfl ?own (some ⟨_, 0, none⟩) 1 1 rfl (Lib.hid rfl) (lit1 _ _ _ _) ?h63 ?hby ?hba ?_)
    | fail)
  case own => rw [hm.out]; exact OWN.out
  case h63 => rw [hm.out]; unfold maxLen; omega
  case hby => rw [hm.out]; omega
  case hba => simp; omega
  rw [hm.out]
  intro ra2 rc2 w4 own4 grow4 _
  obtain ⟨at4, b24⟩ := more_at hm.out B3.out OW.out own4 grow4
  have B4 := pstep B2 b24
  have HA4 := Lib.hid at4
  have HT4 := Lib.hid (tab_step HT2.out b24)
  have HM4 : Hid ((ops ++ [(⟨1, (k : Int), M⟩ : VopT)]).length = m + 1) := Lib.hid (by simp [hm.out])
  have HS4 := Lib.hid (HS2.out.step b24)
  clear own4 grow4 at4 b24 OWN OW B3 S3
  go_wp2_with (first
    | (go_at_call 6; (with_reducible refine (play_ok _ HT4 cores n h1 h8 hn HA4 HM4 (by omega) l2 es2 HR2).mono ?_); rintro e w5 ⟨ea2, ec2, sa2, sc2, rfl, EA, SA, hb⟩; have B5 := pstep B4 hb; have HS5 := Lib.hid (HS4.out.step hb); have HE5 := Lib.hid EA; have HS6 := Lib.hid SA; clear hb EA SA; obtain ⟨sb, so, hsa, hsb, c0, c1⟩ := at_slot HS5.out HKS.out; subst hsa; clear c0)
    | fail)
  go_loopw [17, 66] (fun b i wr => ∃ c : Nat, c ≤ cores ∧ i = .int .i64 c ∧ b = .bool (roomV l M c) ∧ Below w5.heap.size w5 wr) (fun _ i _ => cores - (intOf i).toNat)
  case atStart => exact ⟨0, Nat.zero_le _, rfl, rfl, Below.refl _ _⟩
  case round =>
    obtain ⟨c, hc, rfl, rfl, BB⟩ := hrel
    obtain ⟨rm, hrm⟩ : ∃ rm, roomV l M c = rm := ⟨_, rfl⟩
    rw [hrm]
    by_cases hcl : c < cores
    · go_wp2_with fail
      go_loopw [19, 71] (fun x i wr => ∃ j : Nat, j ≤ n ∧ i = .int .i64 j ∧ x = .int .i64 (cntTo l c j) ∧ Below w5.heap.size w5 wr) (fun _ i _ => n - (intOf i).toNat)
      case atStart => exact ⟨0, Nat.zero_le _, rfl, rfl, BB⟩
      case round =>
        clear BB
        obtain ⟨j, hj, rfl, rfl, BB⟩ := hrel
        by_cases hjn : j < n
        · obtain ⟨s, hs⟩ : ∃ s, l[j]? = some s := ⟨l[j]'(by rw [hll.out]; exact hjn), List.getElem?_eq_getElem _⟩
          obtain ⟨a, v⟩ := s
          obtain ⟨sb, so, hsa, hsb, g0, g1⟩ := at_slot (HS5.out.step BB) hs
          cases hsa
          have hle := cntTo_le l c j
          have hstep := cntTo_step (c := c) hs
          rw [hll.out] at hle
          obtain ⟨x, hx⟩ : ∃ x, cntTo l c j = x := ⟨_, rfl⟩
          rw [hx] at hstep hle ⊢
          clear hs hx
          simp only at g0 g1
          by_cases hv0 : 0 < v
          · by_cases hac : a = c
            · subst hac
              have hst2 : cntTo l a (j + 1) = x + 1 := by rw [hstep, if_pos ((onC_iff a ⟨a, v⟩).2 ⟨hv0, rfl⟩)]
              have HX := Lib.hid hst2
              clear hst2 hstep
              go_wp2_with fail
              go_roundw
              case rel => exact ⟨j + 1, by omega, by go_num, by rw [HX.out]; go_num, below_more BB _⟩
              case measure => simp [intOf]; omega
            · have hst2 : cntTo l c (j + 1) = x := by rw [hstep, if_neg (fun h => hac ((onC_iff c ⟨a, v⟩).1 h).2)]; rfl
              have HX := Lib.hid hst2
              have hac' : ¬ (a : Int) = (c : Int) := by omega
              clear hst2 hstep
              go_wp2_with fail
              go_roundw
              case rel => exact ⟨j + 1, by omega, by go_num, by rw [HX.out], below_more BB _⟩
              case measure => simp [intOf]; omega
          · have hst2 : cntTo l c (j + 1) = x := by rw [hstep, if_neg (fun h => hv0 ((onC_iff c ⟨a, v⟩).1 h).1)]; rfl
            have HX := Lib.hid hst2
            have hv1 : v = 0 := by omega
            subst hv1
            clear hst2 hstep
            go_wp2_with fail
            go_roundw
            case rel => exact ⟨j + 1, by omega, by go_num, by rw [HX.out], below_more BB _⟩
            case measure => simp [intOf]; omega
        · obtain rfl : j = n := by omega
          have hcn : cntTo l c j = cntV l c := by rw [← hll.out]; exact cntTo_all l c
          rw [hcn]
          have HRM : Hid (roomV l M (c + 1) = (rm || (allow M c && decide (cntV l c < 224)))) := Lib.hid (by rw [roomV, hrm])
          have hle := cnt_le l c
          rw [hll.out] at hle
          generalize cntV l c = x at HRM hle ⊢
          clear hcn hrm hjn hj
          cases rm
          · cases haM : allow M c
            · have hsh : ¬ (IntKind.u64.wrap M / 2 ^ c).tmod 2 = 1 := fun h => by rw [(shr_allow M c (by omega)).1 h] at haM; cases haM
              have HRX := Lib.hid HRM.out
              rw [haM] at HRX
              clear haM HRM
              go_wp2_with fail
              go_roundw
              case rel => exact ⟨c + 1, by omega, by go_num, by rw [HRX.out]; rfl, BB⟩
              case measure => simp [intOf]; omega
            · have hsh : (IntKind.u64.wrap M / 2 ^ c).tmod 2 = 1 := (shr_allow M c (by omega)).2 haM
              have HRX := Lib.hid HRM.out
              rw [haM] at HRX
              clear haM HRM
              go_wp2_with fail
              go_roundw
              case rel => exact ⟨c + 1, by omega, by go_num, by rw [HRX.out]; simp; try omega, BB⟩
              case measure => simp [intOf]; omega
          · go_wp2_with fail
            go_roundw
            case rel => exact ⟨c + 1, by omega, by go_num, by rw [HRM.out]; rfl, BB⟩
            case measure => simp [intOf]; omega
    · obtain rfl : c = cores := by omega
      have hx := HXX.out
      rw [hrm] at hx
      clear hcl hc hrm
      cases rm
      · obtain ⟨eb, eo, hea, heb, ce⟩ := at_err (HE5.out.step BB) hx
        subst hea
        clear hx
        go_wp2_with fail
        go_ret
        exact ⟨rfl, pstep B5 BB⟩
      · obtain ⟨eb, eo, hea, heb, ce⟩ := at_err (HE5.out.step BB) hx
        subst hea
        clear hx
        go_wp2_with fail
        go_ret
        exact ⟨rfl, pstep B5 BB⟩
theorem vectorFull_R {ad : Option Addr} {cap m : Nat} {ops : List VopT} (w : World) (hT : Hid (Tab w)) (C N L M : Int) (HA : Hid (shO.At w ad cap ops)) (hm : Hid (ops.length = m)) (hm2 : m ≤ 5864062014634) :
    Calls Tryd.prog 4 #[.int .i64 C, .int .i64 N, .slice ad m cap, .int .i64 L, .int .i64 M] w fun e w' => e = .returned (.bool true) ∧ Below w.heap.size w w' := by
  by_cases hb : C < 1 ∨ 8 < C ∨ N < 0 ∨ 2000 < N
  · exact vfull_bad w hT C N L M hb HA hm hm2
  obtain ⟨c, rfl⟩ : ∃ c : Nat, C = c := ⟨C.toNat, by omega⟩
  obtain ⟨n, rfl⟩ : ∃ n : Nat, N = n := ⟨N.toNat, by omega⟩
  obtain ⟨⟨l, es⟩, hr⟩ : ∃ r, runV c n ops = r := ⟨_, rfl⟩
  obtain ⟨⟨l2, es2⟩, hr2⟩ : ∃ r, runV c n (ops ++ [⟨1, L, M⟩]) = r := ⟨_, rfl⟩
  by_cases hlo : L < 0
  · exact vfull_lo w hT c n (by omega) (by omega) (by omega) L M hlo HA hm hm2 l l2 es es2 (Lib.hid hr) (Lib.hid hr2)
  by_cases hhi : (n : Int) ≤ L
  · exact vfull_hi w hT c n (by omega) (by omega) (by omega) L M hlo hhi HA hm hm2 l l2 es es2 (Lib.hid hr) (Lib.hid hr2)
  obtain ⟨k, rfl⟩ : ∃ k : Nat, L = k := ⟨L.toNat, by omega⟩
  have hlen : l.length = n := by
    have := (run_good c n ops).2.1
    rw [hr] at this
    exact this
  obtain ⟨⟨sc, sv⟩, hs⟩ : ∃ s, l[k]? = some s := ⟨l[k]'(by omega), List.getElem?_eq_getElem _⟩
  by_cases hv : 0 < sv
  · exact vfull_held w hT c n (by omega) (by omega) (by omega) k M (by omega) HA hm hm2 l l2 es es2 (Lib.hid hr) (Lib.hid hr2) sc sv (Lib.hid hs) hv
  · obtain rfl : sv = 0 := by omega
    exact vfull_main w hT c n (by omega) (by omega) (by omega) k M (by omega) HA hm hm2 l l2 es es2 (Lib.hid hr) (Lib.hid hr2) sc (Lib.hid hs)
end Go.Proofs.YtmldedkmmhnihaaDoor
