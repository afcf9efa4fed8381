/- slices.Concat at bytes: as many rows as there are, as much as a slice may hold (2^48 bytes): append where there is room asks for no more. -/
import Derived.Test.YtomgifdnnfbpnaaDoorConL
namespace Go.Proofs.YtomgifdnnfbpnaaDoor
open Go.RowKit

section
variable {P : Program} {w : World}
/-- 'append(v, ys...)', v the call's own with room enough, or nil and nothing to append: no bound on the bytes. -/
theorem run_append_fit {α : Type} (S : Shape α) (base : Nat) (t ty e : TypeId) (i : TypeInfo) (ht : P.underlying t = some (.slice e)) (hi : P.info? e = some i)
    (hsize : i.size = S.size) (va : Option Addr) (cap n : Nat) (xs ys : List α) (hown : Que S w base e (.slice va n cap) n xs) (sa : Option Addr) (c : Nat) (hy : S.At w sa c ys) (hroom : n + ys.length ≤ cap) :
    ∃ w', (Builtin.append_ #[t, t] ty #[.slice va n cap, .slice sa ys.length c]).run P w = .ok (.slice va (n + ys.length) cap) w' ∧ Que S w' base e (.slice va (n + ys.length) cap) (n + ys.length) (xs ++ ys) ∧ w.grownBy w' (Value.slice va n cap).ownBlock := by
  have hw := hown
  obtain ⟨h1, h2⟩ := hown
  subst h1
  rcases h2 with ⟨h2, h3⟩ | ⟨g, off, cap', cur, hv, hbg, hg, hnc, hcm, hcs, hcur⟩
  · simp only [Value.slice.injEq] at h2
    obtain ⟨rfl, _, rfl⟩ := h2
    have e0 : ys = [] := List.eq_nil_of_length_eq_zero (by omega)
    subst e0
    have e1 : xs = [] := List.eq_nil_of_length_eq_zero h3
    subst e1
    refine ⟨w, ?_, by simpa using hw, ⟨rfl, rfl, rfl, Nat.le_refl _, fun _ _ _ => rfl⟩⟩
    cases sa with
    | none =>
      obtain ⟨rfl, _⟩ := hy.1 rfl
      exact run_append_owned_none w base t ty e i i.size ht hi (.slice none 0 0) 0 [] (World.ownsRow_nil _ _ _ _)
    | some a => exact run_append_none_empty base t ty e i i.size ht hi (.slice none 0 0) 0 [] (World.ownsRow_nil _ _ _ _) a c
  · simp only [Value.slice.injEq, true_and] at hv
    obtain ⟨rfl, rfl⟩ := hv
    by_cases h0 : 0 < ys.length
    · obtain ⟨b, o, rfl, hb, hl⟩ := hy.2 h0
      have hnews : ∀ j u, (S.flat ys)[j]? = some u → w.cell? ((⟨b, o, none⟩ : Addr).add j) = some u := fun j u hj => by
        have hlt := (List.getElem?_eq_some_iff.1 hj).1
        rw [S.flat_len] at hlt
        rw [Go.WideShapes.add_plain, hl j hlt]
        exact hj
      have hnl : (S.flat ys).length = ys.length * i.size := by rw [S.flat_len, hsize]
      have hN : (xs.length + ys.length) * S.size = xs.length * S.size + ys.length * S.size := Nat.add_mul _ _ _
      have hle : (xs.length + ys.length) * S.size ≤ cap * S.size := Nat.mul_le_mul_right _ hroom
      have hr := run_append_room_off (P := P) t ty e i ht hi g off xs.length cap cur hg ⟨b, o, none⟩ ys.length c (S.flat ys) hnl hnews (S.flat_one ys) hroom (by rw [hnl, hsize]; omega)
      refine ⟨_, hr, ⟨by rw [List.length_append], Or.inr ⟨g, off, cap, _, rfl, hbg, setRow_heap w g cur _ e _ hg, hroom, hcm, ?_, fun k hk => ?_⟩⟩, ⟨rfl, rfl, rfl, by simp, fun k _ hk => setRow_other w g k _ (fun e => hk (by simp [Value.ownBlock, e]))⟩⟩
      · simp only [List.size_toArray, List.length_append, List.length_take, List.length_drop, Array.length_toList]
        rw [hnl, hsize]
        omega
      · rw [List.getElem?_toArray, S.flat_app, hsize]
        have htl : (cur.toList.take (off + xs.length * S.size)).length = off + xs.length * S.size := by
          have hcl : cur.toList.length = cur.size := Array.length_toList
          rw [List.length_take, hcl]
          omega
        by_cases hkx : k < xs.length * S.size
        · rw [List.append_assoc, List.getElem?_append_left (by rw [htl]; omega), List.getElem?_take_of_lt (by omega), Array.getElem?_toList, hcur k hkx, List.getElem?_append_left (by rw [S.flat_len]; exact hkx)]
        · rw [List.append_assoc, List.getElem?_append_right (by rw [htl]; omega), htl, List.getElem?_append_left (by rw [S.flat_len]; omega), List.getElem?_append_right (by rw [S.flat_len]; omega), S.flat_len]
          congr 1
          omega
    · have e0 : ys = [] := List.eq_nil_of_length_eq_zero (by omega)
      subst e0
      rw [List.append_nil, List.length_nil, Nat.add_zero]
      refine ⟨w, ?_, hw, ⟨rfl, rfl, rfl, Nat.le_refl _, fun _ _ _ => rfl⟩⟩
      cases sa with
      | none =>
        obtain ⟨rfl, _⟩ := hy.1 rfl
        simp [Builtin.append_, run_underlying ht, sizeOf, typeInfo, hi, Builtin.lenOf, Builtin.firstCells, hnc, storeCells, loadCells, Sem.run_bind]
      | some a =>
        simp [Builtin.append_, run_underlying ht, sizeOf, typeInfo, hi, Builtin.lenOf, Builtin.firstCells, hnc, storeCells, loadCells, loadCellsFrom, Sem.run_bind]
theorem wpList_append_fit {α : Type} (S : Shape α) {ops : Array Oper} {rest : List Oper} {o : Oper} {a : Act} {Q : Exit → Act → World → Prop} (hgd : o.guard = none) (s x : Operand) (t : TypeId)
    (ho : o.op = .call { callee := .builtin .append, args := #[s, x], argTypes := #[t, t] })
    (base : Nat) (e : TypeId) (i : TypeInfo) (ht : P.underlying t = some (.slice e)) (hi : P.info? e = some i)
    (hsize : i.size = S.size) (va : Option Addr) (cap n : Nat) (xs ys : List α) (hs : a.eval s = .slice va n cap) (hown : Que S w base e (.slice va n cap) n xs) (sa : Option Addr) (m c : Nat) (hx : a.eval x = .slice sa m c) (hm : Hid (ys.length = m)) (hy : S.At w sa c ys)
    (hroom : n + m ≤ cap)
    (h : ∀ w', Que S w' base e (.slice va (n + m) cap) (n + m) (xs ++ ys) → w.grownBy w' (Value.slice va n cap).ownBlock → wpList P ops Q rest (a.put o.dst (.slice va (n + m) cap)) w') : wpList P ops Q (o :: rest) a w := by
  refine wpList_plain hgd fun K hK => ?_
  have e := hm.out
  subst e
  obtain ⟨w', hr, h2, h3⟩ := run_append_fit (P := P) S base t o.type _ i ht hi hsize va cap n xs ys hown sa c hy hroom
  unfold Oper.wp execOp
  simp only [ho, resolve, invoke, builtin, Sem.run_bind, Sem.run_pure, Result.andThen_ok, List.map_toArray, List.map_cons, List.map_nil, hs, hx, hr]
  exact hK _ _ (h w' h2 h3)
/-- slices.Grow's append at the nil slice: up to 2^48 bytes. -/
theorem run_grow_nil48 {α : Type} (S : Shape α) (t tn ty e : TypeId) (i : TypeInfo) (z : Value) (bytes : Nat) (ht : P.underlying t = some (.slice e)) (htn : P.underlying tn = some (.int .i64)) (hi : P.info? e = some i) (hz : i.zero = some z)
    (hsize : i.size = S.size) (hby : i.bytes = bytes) (hzs : z.cells.size = S.size) (n : Nat) (h0 : 0 < n) (h63 : n ≤ maxLen) (hbytes : n * bytes ≤ 281474976710656) :
    ∃ cap w', n ≤ cap ∧ cap ≤ maxLen ∧ (Builtin.append_ #[t, tn] ty #[.slice none 0 0, .int .i64 n]).run P w = .ok (.slice (some ⟨w.heap.size, 0, none⟩) n cap) w' ∧ w'.ownsRow w.heap.size e S.size (.slice (some ⟨w.heap.size, 0, none⟩) 0 cap) 0 (S.flat []) ∧ Below w.heap.size w w' := by
  have hold : (Builtin.firstCells i.size 0 (.slice none 0 0)).run P w.drew = .ok ([] : List Value).toArray w.drew := run_firstCells_none w.drew i.size 0 0 0
  have hpos := S.pos
  have hm := h63
  unfold maxLen at hm
  have h := Lib.run_append_grow_zeros w t tn ty e i z .i64 .i64 ht htn hi hz none 0 0 [] hold n h0 (by omega) (by omega) (by omega) (by rw [hby]; omega) (by rw [Nat.zero_add, hby, nextslicecap_zero h0]; exact hbytes)
  rw [Nat.zero_add] at h
  have hc1 := grownCap_ge w n 0 e
  refine ⟨grownCap w n 0 e, _, hc1, grownCap_le_maxLen w n 0 e h63, h, ?_, ((Below.refl _ _).drew).alloc (Nat.le_refl _) _⟩
  refine World.ownsRow_made w.drew _ _ (Nat.le_refl _) (grownCap_le_maxLen w n 0 e h63) ?_
  simp [Builtin.zeroCells, hzs]
  rw [← Nat.add_mul]
  congr 1
  omega
end
set_option maxHeartbeats 4000000 in
set_option maxRecDepth 100000 in
theorem grow_X (n : Nat) (w : World) (hn : n ≤ 281474976710656) : Calls Tryd.prog 32 #[.slice none 0 0, .int .i64 (n : Nat)] w fun e w' => ∃ ra cap, e = .returned (.slice ra 0 cap) ∧ n ≤ cap ∧ Que shB w' w.heap.size 5 (.slice ra 0 cap) 0 [] ∧ Below w.heap.size w w' := by
  by_cases h0 : n = 0
  · subst h0
    refine (grow0_L w).mono ?_
    rintro e w' ⟨rfl, rfl⟩
    exact ⟨none, 0, rfl, Nat.le_refl _, que_nil _ _ _ _, Below.refl _ _⟩
  have hn0 : 0 < n := by omega
  obtain ⟨i0, hi, hz0, hz1, hz2⟩ := info_parts' info_byte
  obtain ⟨cap, w2, hc1, hc2, hr, hown, hbl⟩ := run_grow_nil48 (P := Tryd.prog) (w := w) shB 23 3 23 5 i0 _ 1 Tryd.underlying23 Tryd.underlying3 hi hz0 hz1 hz2 rfl n hn0 (by unfold maxLen; omega) (by omega)
  have hc63 : cap ≤ 9223372036854775807 := by unfold maxLen at hc2; omega
  have h1 : ¬ ((n : Int) < 0) := by omega
  have h4 : (n : Int) > 0 := by omega
  have HO := Lib.hid hown
  have HB := Lib.hid hbl
  clear hown hbl h0
  go_enter Tryd.func32, Tryd.ntmps32
  go_wp2_with (at_builtin; refine Lib.wpList_append_run _ rfl _ _ _ _ rfl _ _ rfl rfl _ _ hr ?_)
  go_ret
  exact ⟨_, cap, rfl, hc1, que_own HO.out rfl, HB.out⟩
set_option maxHeartbeats 4000000 in
set_option maxRecDepth 100000 in
theorem concat_X {ad : Option Addr} {cap k : Nat} {ls : List (List UInt8)} (w : World) (HL : Hid (LnsAt w ad cap ls)) (hk : Hid (ls.length = k)) (hkn : k ≤ 9223372036854775807) (T : Nat) (hT : Hid (sumL ls = T)) (hTn : T ≤ 281474976710656) :
    Calls Tryd.prog 20 #[.slice ad k cap] w fun e w' => ∃ ra rc, e = .returned (.slice ra T rc) ∧ shB.At w' ra rc ls.flatten ∧ Below w.heap.size w w' := by
  obtain ⟨i0, hi, hz0, hz1, hz2⟩ := info_parts' info_byte
  go_enter Tryd.func20, Tryd.ntmps20
  go_wp2_with fail
  go_loopw [3, 11] (fun v i wr => ∃ j : Nat, j ≤ k ∧ i = .int .i64 j ∧ v = .int .i64 (sumL (ls.take j) : Nat) ∧ Hid (Below w.heap.size w wr)) (fun _ i _ => k - (intOf i).toNat)
  case atStart => exact ⟨0, Nat.zero_le _, rfl, rfl, Lib.hid (Below.refl _ _)⟩
  case round =>
    obtain ⟨j, hj, rfl, rfl, HW⟩ := hrel
    by_cases hlt : j < k
    · obtain ⟨l, hl⟩ : ∃ l, ls[j]? = some l := ⟨ls[j]'(by rw [hk.out]; exact hlt), List.getElem?_eq_getElem _⟩
      have hle := len_le_sum hl
      rw [hT.out] at hle
      have HN := Lib.hid (sumL_next hl)
      obtain ⟨b, off, a, c, rfl, hb0, hc0, _⟩ := at_line HL.out hl
      have hc := (HW.out.cell (p := ⟨b, off + j, none⟩) hb0).trans hc0
      have hb := Nat.lt_of_lt_of_le hb0 HW.out.size
      clear hb0 hc0
      obtain ⟨z, hz⟩ : ∃ z, sumL (ls.take j) = z := ⟨_, rfl⟩
      obtain ⟨y, hy⟩ : ∃ y, l.length = y := ⟨_, rfl⟩
      rw [hz, hy] at hle HN
      rw [hy] at hc
      rw [hz]
      have w1 : IntKind.i64.wrap ((z : Int) + (y : Int)) = ((z + y : Nat) : Int) := by rw [IntKind.wrap_i64]; omega
      have h0 : ¬ (((z + y : Nat) : Int) < 0) := by omega
      have h0d : decide (((z + y : Nat) : Int) < 0) = false := decide_eq_false h0
      clear hz hy hl hle
      go_wp2_with fail
      go_roundw
      case rel => exact ⟨j + 1, by omega, by go_num, by rw [HN.out] <;> rfl, HW⟩
      case measure => simp [intOf]; omega
    · obtain rfl : j = k := by omega
      have e : ls.take j = ls := by rw [← hk.out, List.take_length]
      rw [e, hT.out]
      obtain ⟨wo, rfl⟩ : ∃ wo : World, wo = wr := ⟨_, rfl⟩
      have HL2 := Lib.hid (HL.out.step HW.out)
      have HG := Lib.hid (grow_X T wo hTn)
      clear e hlt hj
      go_wp2_with (first
        | (go_at_call 32; (with_reducible refine HG.out.mono ?_); rintro e wg ⟨ra, rc, rfl, hcap, own, hb⟩; have OW := Lib.hid own; have BB := Lib.hid hb; clear own hb)
        | fail)
      go_loopw [6, 27] (fun v i wz => ∃ (i' m : Nat), i' ≤ j ∧ i = .int .i64 i' ∧ v = .slice ra m rc ∧ Hid (sumL (ls.take i') = m) ∧ Hid (Que shB wz wo.heap.size 5 (.slice ra m rc) m (ls.take i').flatten) ∧ Hid (Below wo.heap.size wo wz)) (fun _ i _ => j - (intOf i).toNat)
      case atStart => exact ⟨0, 0, Nat.zero_le _, rfl, rfl, Lib.hid rfl, OW, BB⟩
      case round =>
        obtain ⟨i', m, hi', rfl, rfl, HM, HO, HB⟩ := hrel
        by_cases hlt : i' < j
        · obtain ⟨l, hl⟩ : ∃ l, ls[i']? = some l := ⟨ls[i']'(by rw [hk.out]; exact hlt), List.getElem?_eq_getElem _⟩
          have hle := len_le_sum hl
          rw [hT.out, HM.out] at hle
          have HN := Lib.hid (sumL_next hl)
          rw [HM.out] at HN
          have HF := Lib.hid (flat_next hl)
          obtain ⟨b, off, a, c, rfl, hb, hc, ha⟩ := at_line HL2.out hl
          have hc2 := (HB.out.cell (p := ⟨b, off + i', none⟩) hb).trans hc
          have hb2 := Nat.lt_of_lt_of_le hb HB.out.size
          have HA := Lib.hid (ha.step HB.out)
          obtain ⟨y, hy⟩ : ∃ y, l.length = y := ⟨_, rfl⟩
          have HY := Lib.hid hy
          rw [hy] at hle HN hc2
          clear hy hl hc ha
          go_wp2_with (first
            | (at_builtin; refine wpList_append_fit shB rfl _ _ 23 rfl wo.heap.size 5 i0 Tryd.underlying23 hi hz1 ra rc m (ls.take i').flatten l rfl HO.out a y c rfl HY HA.out (by omega) ?_; intro w9 own9 grow9; have O9 := Lib.hid own9; have B9 := Lib.hid (HB.out.grown grow9 HB.out.size (fun q hq => (que_lt HO.out hq).1)); clear own9 grow9)
            | fail)
          go_roundw
          case rel => exact ⟨i' + 1, m + y, by omega, by go_num, rfl, HN, Lib.hid (by rw [HF.out]; exact O9.out), B9⟩
          case measure => simp [intOf]; omega
        · obtain rfl : i' = j := by omega
          have e : ls.take i' = ls := by rw [← hk.out, List.take_length]
          rw [e] at HM HO
          obtain rfl : m = T := by rw [← HM.out, hT.out]
          have HAt := Lib.hid (que_at HO.out)
          clear e hlt hi'
          go_wp2_with fail
          go_ret
          exact ⟨ra, rc, rfl, HAt.out, pstep HW.out HB.out⟩
end Go.Proofs.YtomgifdnnfbpnaaDoor
