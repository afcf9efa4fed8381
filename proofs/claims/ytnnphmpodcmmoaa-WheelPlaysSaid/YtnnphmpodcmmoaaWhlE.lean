/- Package wheel: the walk of tick. -/
import Derived.Test.YtnnphmpodcmmoaaWhlC
import Derived.Test.YtnnphmpodcmmoaaArg
import Derived.Deep.RegionLaw
namespace Go.Proofs.Ytnnphmpodcmmoaa
open Go.RowKit Go.Maps

theorem fi_lit (X : World) (t : Nat) (x : Int) (cap : Nat) : shF.At (X.alloc (.cells #[.int .i64 (t : Int), .int .i64 x] 31)) (some ⟨X.heap.size, 0, none⟩) cap [(t, x)] :=
  Shape.At.lit (S := shF) [(t, x)] (heap_alloc_new X _)
theorem hp_grownF {w0 w w' : World} {B m L now n : Nat} {set : List FiT} {sl : Nat → List Int} {fd : List FiT} {R : Array Value} {v : Value} {xs : List Value} (h : WhR w0 w B m L now set sl fd R) (ho : w.ownsRow w0.heap.size 31 2 v n xs) (hg : w.grownBy w' v.ownBlock) : w'.heap[B]? = some (.cells R 46 (0, 0)) :=
  (hg.block _ (heap_lt h.hp) (fun e => own_ne ho h.hp (by decide) B e.symm rfl)).trans h.hp
theorem cell_hp {w : World} {B i : Nat} {R : Array Value} {t : TypeId} {u : Value} (h : w.heap[B]? = some (.cells R t (0, 0))) (hu : R[i]? = some u) : w.cell? ⟨B, i, none⟩ = some u := by
  rw [cell_of_row w B i _ _ _ h]; exact hu
set_option maxHeartbeats 4000000 in
set_option maxRecDepth 100000 in
theorem tick_W {w0 w : World} {B m L now : Nat} {set : List FiT} {sl : Nat → List Int} {fd : List FiT} {R : Array Value} (HW : Hid (WhR w0 w B m L now set sl fd R)) (j n F : Nat) (hj : (now + 1) % 511 = j) (hnow : now ≤ 1099511627776) (hnd : set.Pairwise fun a b => ¬ a.2 = b.2)
    (HN : Hid ((sl j).length = n)) (hn : n ≤ 1000000) (HF : Hid (fd.length = F)) (hF : F ≤ 1000000) (hwf : Hid (∀ x ∈ sl j, WfI x)) :
    Calls Try.prog 27 #[.pointer (some ⟨B, 0, none⟩)] w fun e w' => e = .returned (.tuple #[]) ∧ ∃ R', WhR w0 w' B m L (now + 1) (outL (sl j) set) (fun x => if x = j then [] else sl x) (fd ++ (sl j).map fun i => (now + 1, i)) R' ∧ KeepT w w' := by
  obtain ⟨c0, cm, hBl, fz⟩ := HW.out.read
  have hj5 : j < 511 := by omega
  have hj0 : (0 : Int) ≤ (j : Int) := by omega
  have hj1 : (j : Int) < 511 := by omega
  have htm : Int.tmod ((now : Int) + 1) 511 = (j : Int) := by rw [← hj, ← tmod_nat]; rfl
  have hwn : IntKind.i64.wrap ((now : Int) + 1) = (now : Int) + 1 := by rw [IntKind.wrap_i64]; omega
  have K1 := Lib.hid (HW.out.clock (now + 1))
  have hcast : ((now + 1 : Nat) : Int) = (now : Int) + 1 := by omega
  rw [hcast] at K1
  obtain ⟨k0, km, kBl, kz⟩ := K1.out.read
  obtain ⟨v, hv, own⟩ := K1.out.sl j hj5
  rw [HN.out] at own
  obtain ⟨ad, c, rfl, hnc, hcm, hz, hg⟩ := own_shape own
  have HV := Lib.hid hv
  have HO := Lib.hid own
  have kv := K1.out.cell hv
  have HND := Lib.hid hnd
  obtain ⟨i0, hi, hz0, hz1, hz2⟩ := info_parts info_fi
  obtain ⟨ids, hids⟩ : ∃ ids, sl j = ids := ⟨_, rfl⟩
  have K2 : Hid (WhR w0 (w.setCell ⟨B, 0, none⟩ (.int .i64 ((now : Int) + 1))) B m L (now + 1) (outL (ids.take 0) set) sl (fd ++ (ids.take 0).map fun i => (now + 1, i)) (R.setIfInBounds 0 (.int .i64 ((now : Int) + 1)))) := Lib.hid (by
    rw [List.take_zero, out_zero, List.map_nil, List.append_nil]
    exact K1.out)
  have HIDS := Lib.hid hids
  rw [hids] at HN HO hwf
  have htm' : Int.tmod ((now + 1 : Nat) : Int) 511 = (j : Int) := by rw [hcast]; exact htm
  have hzz : (w.setCell ⟨B, 0, none⟩ (.int .i64 ((now : Int) + 1))).heap.size = w.heap.size := by simp
  clear hv own hnd hids
  go_enter Try.func27, Try.ntmps27
  go_upto_region 3 with fail
  have KZ := Lib.hid (keep_set (i := 0) (u := .int .i64 ((now : Int) + 1)) HW.out.hp)
  generalize w.setCell ⟨B, 0, none⟩ (.int .i64 ((now : Int) + 1)) = wz at K1 K2 k0 km kBl kz kv HO hzz KZ ⊢
  clear c0 cm hBl fz
  go_loopw [24] (fun i wr => ∃ (q : Nat) (R' : Array Value), q ≤ n ∧ i = .int .i64 q ∧ Hid (WhR w0 wr B m L (now + 1) (outL (ids.take q) set) sl (fd ++ (ids.take q).map fun i => (now + 1, i)) R') ∧ Hid (R'[1 + j]? = some (.slice ad n c)) ∧ Hid (KeepT w wr)) (fun i _ => n - (intOf i).toNat)
  case atStart => exact ⟨0, _, Nat.zero_le _, rfl, K2, HV, KZ⟩
  case round =>
    clear k0 km kBl kz kv
    obtain ⟨q, R', hq, rfl, HR, HC, HKT⟩ := hrel
    by_cases hlt : q < n
    · obtain ⟨x, hx⟩ : ∃ x, ids[q]? = some x := ⟨ids[q]'(by rw [HN.out]; exact hlt), List.getElem?_eq_getElem _⟩
      have hwx := hwf.out x (List.mem_of_getElem? hx)
      have WFx : (Lit.int .i64 x).wf = true := hwx
      obtain ⟨v', hv', own'⟩ := HR.out.sl j hj5
      obtain rfl : v' = .slice ad n c := by rw [HC.out] at hv'; exact (Option.some.inj hv').symm
      rw [HIDS.out, HN.out] at own'
      obtain ⟨b, off, rfl, hbl, e0⟩ := at_int (Shape.At.own (S := shI) own' HN.out) hx
      obtain ⟨D, o1, T1⟩ := HR.out.mp
      have O1 := Lib.hid o1
      have HT1 := Lib.hid T1
      have HNQ := Lib.hid (nod_mono HND.out (fun p => decide (¬ p.2 ∈ ids.take q)))
      have hol := (own_lt own' rfl).2
      have HX := Lib.hid hx
      obtain ⟨r0, rm, rBl, rz⟩ := HR.out.read
      have HOQ := Lib.hid own'
      clear o1 T1 hv' own' hx hwx
      go_upto_region 6 with (first
        | (at_delete; refine wpList_delete_own _ rfl _ _ 34 3 rfl 3 lawI Try.underlying34 _ m L D rfl O1.out _ (.int .i64 x) rfl (keyOf_int_mk Try.underlying3 WFx) ?_; intro w1 hown1 hturn1; have X1 := Lib.hid (HR.out.turn hturn1.grown ⟨_, hown1, HT1.out.del (O1.out.tidy lawI) HNQ.out⟩); have KT1 := Lib.hid (HKT.out.trans (keep_turn HR.out.mp hturn1.grown)); clear hown1 hturn1)
        | fail)
      obtain ⟨fv, hfv, fown⟩ := X1.out.fi
      have hql : (ids.take q).length = q := by rw [List.length_take, HN.out]; omega
      have hfl : (fd ++ (ids.take q).map fun i => ((now + 1, i) : FiT)).length = F + q := by rw [List.length_append, List.length_map, hql, HF.out]
      rw [hfl] at fown
      obtain ⟨fa, fc, rfl, hfc, hfm, _, _⟩ := own_shape fown
      obtain ⟨y0, ym, yBl, yz⟩ := X1.out.read
      have yf := X1.out.cell hfv
      have HFV := Lib.hid hfv
      have hgt : ∀ y, (Value.slice fa (F + q) fc).ownBlock = some y → y < w1.heap.size := fun y hy => (own_lt fown hy).2
      have BA : Below w1.heap.size w1 (w1.alloc (.cells #[.int .i64 ((now + 1 : Nat) : Int), .int .i64 x] 31)).drew := (below_alloc w1 _).drew
      have FO := Lib.hid (own_step fown BA)
      have XA := Lib.hid (X1.out.step BA)
      have LA : Hid (shF.At (w1.alloc (.cells #[.int .i64 ((now + 1 : Nat) : Int), .int .i64 x] 31)).drew (some ⟨w1.heap.size, 0, none⟩) 1 [(now + 1, x)]) := Lib.hid (fi_lit w1 (now + 1) x 1)
      have hbs : w0.heap.size ≤ (w1.alloc (.cells #[.int .i64 ((now + 1 : Nat) : Int), .int .i64 x] 31)).drew.heap.size := XA.out.b.size
      have HFL := Lib.hid hfl
      clear fown hfv hfl
      go_region_law (first
        | (refine step_append_n shF rfl _ _ 24 rfl w0.heap.size 31 i0 _ 16 Try.underlying24 hi hz0 hz1 hz2 rfl (.slice fa (F + q) fc) (F + q) (fd ++ (ids.take q).map fun i => (now + 1, i)) [(now + 1, x)] HFL rfl FO.out (some ⟨w1.heap.size, 0, none⟩) 1 1 rfl (Lib.hid rfl) LA.out (by unfold maxLen; omega) (by omega) hbs ?_; intro ra rc w4 own4 grow4 _; have H4 := hp_grownF XA.out FO.out grow4; have hB4 := heap_lt H4; have C4 := cell_hp H4 HFV.out; have hf4 : w4.frozen? ⟨B, 513, none⟩ = false := frozen_of_row w4 B 513 R' _ H4; have G4 := Lib.hid grow4; have P4 := Lib.hid own4; clear own4 grow4 H4)
        | fail)
      all_goals go_wp2_with fail
      all_goals go_roundw
      all_goals first
        | refine ⟨q + 1, R'.setIfInBounds 513 (.slice ra (F + q + 1) rc), by omega, by go_num, Lib.hid ?_, Lib.hid ((Array.getElem?_setIfInBounds_ne (by omega)).trans HC.out), Lib.hid (((KT1.out.trans (keep_below BA)).trans (keep_fired FO.out G4.out)).trans (keep_set (hp_grownF XA.out FO.out G4.out)))⟩
          have hlen : (fd ++ ((ids.take q).map fun i => ((now + 1, i) : FiT)) ++ [(now + 1, x)]).length = F + q + 1 := by rw [List.length_append, HFL.out]; rfl
          have e2 : fd ++ ((ids.take (q + 1)).map fun i => ((now + 1, i) : FiT)) = fd ++ ((ids.take q).map fun i => ((now + 1, i) : FiT)) ++ [(now + 1, x)] := by
            rw [List.take_add_one, HX.out]
            simp
          rw [e2, ← out_next HX.out]
          exact XA.out.fire HFV.out G4.out P4.out hlen
        | (simp [intOf]; omega)
    · obtain rfl : q = n := by omega
      have e : ids.take q = ids := by rw [← HN.out, List.take_length]
      have HR2 := HR.out
      rw [e] at HR2
      have HRR := Lib.hid HR2
      obtain ⟨r0, rm, rBl, rz⟩ := HRR.out.read
      have rc := HRR.out.cell HC.out
      clear HR HR2
      go_wp2_with fail
      go_end0
      rw [HIDS.out]
      exact ⟨rfl, _, HRR.out.clear hj5, HKT.out.trans (keep_set HRR.out.hp)⟩
end Go.Proofs.Ytnnphmpodcmmoaa
