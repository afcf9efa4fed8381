/- A row of the call's own that may have been cut in front: it lies from some cell on in its block; append to it, in one law. Generic: no function of the project in sight. -/
import Derived.Test.YteabdbgllafafaaMem
import Derived.Sort.OwnSortedInts
namespace Go.Proofs.Yteabdbgllafafaa
open Go.RowKit

/-- A slice in a block of the call's own, from cell 'off' on; or nil. -/
def Que {α : Type} (S : Shape α) (w : World) (base : Nat) (e : TypeId) (v : Value) (n : Nat) (l : List α) : Prop :=
  l.length = n ∧ ((v = .slice none 0 0 ∧ n = 0) ∨ ∃ g off cap cur, v = .slice (some ⟨g, off, none⟩) n cap ∧ base ≤ g ∧ w.heap[g]? = some (.cells cur e (0, 0)) ∧ n ≤ cap ∧ cap ≤ maxLen ∧ off + cap * S.size ≤ cur.size ∧ ∀ i, i < n * S.size → cur[off + i]? = (S.flat l)[i]?)
section
variable {α : Type} {S : Shape α} {w w' : World} {base n : Nat} {e : TypeId} {v : Value} {l : List α}
theorem que_nil (S : Shape α) (w : World) (base : Nat) (e : TypeId) : Que S w base e (.slice none 0 0) 0 [] := ⟨rfl, Or.inl ⟨rfl, rfl⟩⟩
theorem que_len (h : Que S w base e v n l) : l.length = n := h.1
theorem que_own (h : w.ownsRow base e S.size v n (S.flat l)) (hl : l.length = n) : Que S w base e v n l := by
  obtain ⟨h1, h2⟩ := h
  refine ⟨hl, ?_⟩
  rcases h2 with h2 | ⟨g, cap, cur, hv, hg, hh, hn, hc, hs, ht⟩
  · exact Or.inl h2
  · refine Or.inr ⟨g, 0, cap, cur, hv, hg, hh, hn, hc, by omega, fun i hi => ?_⟩
    rw [Nat.zero_add, ← ht, List.getElem?_take_of_lt hi, Array.getElem?_toList]
theorem que_shape (h : Que S w base e v n l) : ∃ ad cap, v = .slice ad n cap ∧ n ≤ cap ∧ cap ≤ maxLen ∧ (ad = none → n = 0 ∧ cap = 0) ∧ (∀ a, ad = some a → ∃ g off, a = ⟨g, off, none⟩ ∧ base ≤ g ∧ g < w.heap.size) := by
  obtain ⟨_, h2⟩ := h
  rcases h2 with ⟨rfl, rfl⟩ | ⟨g, off, cap, cur, hv, hg, hh, hn, hc, hs, ht⟩
  · exact ⟨none, 0, rfl, Nat.le_refl _, Nat.zero_le _, fun _ => ⟨rfl, rfl⟩, fun a h => by cases h⟩
  · exact ⟨_, cap, hv, hn, hc, (fun h => by cases h), fun a h => by cases h; exact ⟨g, off, rfl, hg, heap_lt hh⟩⟩
theorem que_at {ad : Option Addr} {cap : Nat} (h : Que S w base e (.slice ad n cap) n l) : S.At w ad cap l := by
  obtain ⟨h1, h2⟩ := h
  subst h1
  rcases h2 with ⟨h2, h3⟩ | ⟨g, off, cap', cur, hv, hg, hh, hn, hc, hs, ht⟩
  · simp only [Value.slice.injEq] at h2
    obtain ⟨rfl, _, rfl⟩ := h2
    have e0 : l = [] := List.eq_nil_of_length_eq_zero h3
    subst e0
    exact Shape.At.nil w
  · simp only [Value.slice.injEq, true_and] at hv
    obtain ⟨rfl, rfl⟩ := hv
    exact ⟨(fun h => by cases h), fun _ => ⟨g, off, rfl, heap_lt hh, fun i hi => by rw [cell_of_row w g _ _ _ _ hh]; exact ht i hi⟩⟩
theorem que_heap (h : Que S w base e v n l) (hk : ∀ g o, v.ownBlock = some g → w.heap[g]? = some o → w'.heap[g]? = some o) : Que S w' base e v n l := by
  obtain ⟨h1, h2⟩ := h
  refine ⟨h1, ?_⟩
  rcases h2 with h2 | ⟨g, off, cap, cur, hv, hg, hh, r⟩
  · exact Or.inl h2
  · exact Or.inr ⟨g, off, cap, cur, hv, hg, hk g _ (by rw [hv]; rfl) hh, r⟩
theorem que_step (h : Que S w base e v n l) (hb : Below w.heap.size w w') : Que S w' base e v n l := que_heap h fun _ _ _ ho => heap_step ho hb
theorem que_base {base' : Nat} (h : Que S w base e v n l) (hb : base' ≤ base) : Que S w base' e v n l := by
  obtain ⟨h1, h2⟩ := h
  refine ⟨h1, ?_⟩
  rcases h2 with h2 | ⟨g, off, cap, cur, hv, hg, r⟩
  · exact Or.inl h2
  · exact Or.inr ⟨g, off, cap, cur, hv, Nat.le_trans hb hg, r⟩
theorem que_lt (h : Que S w base e v n l) {g : Nat} (hg : v.ownBlock = some g) : base ≤ g ∧ g < w.heap.size := by
  obtain ⟨ad, cap, rfl, _, _, _, ha⟩ := que_shape h
  cases ad with
  | none => cases hg
  | some a =>
    obtain ⟨g', off, rfl, h1, h2⟩ := ha a rfl
    cases hg
    exact ⟨h1, h2⟩
theorem que_ne (h : Que S w base e v n l) {B t : Nat} {cs : Array Value} {fr : Nat × Nat} (hB : w.heap[B]? = some (.cells cs t fr)) (hte : ¬ t = e) : ∀ g, v.ownBlock = some g → g ≠ B := by
  intro g hg e0
  subst e0
  obtain ⟨h1, h2⟩ := h
  rcases h2 with ⟨rfl, _⟩ | ⟨g', off, cap, cur, hv, _, hh, r⟩
  · cases hg
  · rw [hv] at hg
    simp only [Value.ownBlock, Option.some.injEq] at hg
    subst hg
    rw [hh] at hB
    simp only [Option.some.injEq, Obj.cells.injEq] at hB
    exact hte hB.2.1.symm
theorem que_set (h : Que S w base e v n l) {a : Addr} (ha : ∀ g, v.ownBlock = some g → g ≠ a.block) (u : Value) : Que S (w.setCell a u) base e v n l :=
  que_heap h fun g _ hg ho => (Below.heap_setCell w a u g (ha g hg)).trans ho
/-- Another row has grown. -/
theorem que_kept (h : Que S w base e v n l) {r : Option Nat} (hg : w.grownBy w' r) (hne : ∀ g, v.ownBlock = some g → some g ≠ r) : Que S w' base e v n l :=
  que_heap h fun g _ hg' ho => (hg.block g (heap_lt ho) (hne g hg')).trans ho
theorem own_kept {size : Nat} {xs : List Value} (h : w.ownsRow base e size v n xs) {r : Option Nat} (hg : w.grownBy w' r) (hne : ∀ g, v.ownBlock = some g → some g ≠ r) : w'.ownsRow base e size v n xs :=
  own_heap h fun g _ hg' ho => (hg.block g (heap_lt ho) (hne g hg')).trans ho
theorem flat_drop (S : Shape α) (l : List α) (k i : Nat) (hk : k ≤ l.length) : (S.flat (l.drop k))[i]? = (S.flat l)[k * S.size + i]? := by
  have e : S.flat l = S.flat (l.take k) ++ S.flat (l.drop k) := by rw [← S.flat_app, List.take_append_drop]
  rw [e, List.getElem?_append_right (by rw [S.flat_len, List.length_take, Nat.min_eq_left hk]; omega), S.flat_len, List.length_take, Nat.min_eq_left hk]
  congr 1
  omega
/-- What is left behind the first k. -/
theorem que_drop {g off cap : Nat} (h : Que S w base e (.slice (some ⟨g, off, none⟩) n cap) n l) (k : Nat) (hk : k ≤ n) : Que S w base e (.slice (some ⟨g, off + k * S.size, none⟩) (n - k) (cap - k)) (n - k) (l.drop k) := by
  obtain ⟨h1, h2⟩ := h
  refine ⟨by rw [List.length_drop, h1], ?_⟩
  rcases h2 with ⟨h2, _⟩ | ⟨g', off', cap', cur, hv, hg, hh, hn, hc, hs, ht⟩
  · cases h2
  · simp only [Value.slice.injEq, Option.some.injEq, Addr.mk.injEq, and_true, true_and] at hv
    obtain ⟨⟨rfl, rfl⟩, rfl⟩ := hv
    have hm : cap * S.size = k * S.size + (cap - k) * S.size := by rw [← Nat.add_mul]; congr 1; omega
    refine Or.inr ⟨g, _, _, cur, rfl, hg, hh, by omega, by omega, by omega, fun i hi => ?_⟩
    have hni : k * S.size + i < n * S.size := by
      have : n * S.size = k * S.size + (n - k) * S.size := by rw [← Nat.add_mul]; congr 1; omega
      omega
    rw [flat_drop S l k i (by omega), ← ht _ hni, Nat.add_assoc]
/-- Nothing, at the end of a block. -/
theorem que_end {g off cap n' : Nat} (h : Que S w base e (.slice (some ⟨g, off, none⟩) n' cap) n' l) : Que S w base e (.slice (some ⟨g, off, none⟩) 0 0) 0 ([] : List α) := by
  obtain ⟨h1, h2⟩ := h
  rcases h2 with ⟨h2, _⟩ | ⟨g', off', cap', cur, hv, hg, hh, hn, hc, hs, ht⟩
  · cases h2
  · simp only [Value.slice.injEq, Option.some.injEq, Addr.mk.injEq, and_true, true_and] at hv
    obtain ⟨⟨rfl, rfl⟩, rfl⟩ := hv
    exact ⟨rfl, Or.inr ⟨g, off, 0, cur, rfl, hg, hh, Nat.le_refl _, Nat.zero_le _, by omega, fun i hi => by omega⟩⟩
/-- A reading behind the first k. -/
theorem at_drop {g off cap : Nat} (h : S.At w (some ⟨g, off, none⟩) cap l) (k c' : Nat) (hk : k ≤ l.length) : S.At w (some ⟨g, off + k * S.size, none⟩) c' (l.drop k) :=
  ⟨(fun h => by cases h), fun h0 => by
    rw [List.length_drop] at h0
    obtain ⟨b, o, e, hb, hl⟩ := h.2 (by omega)
    cases e
    refine ⟨g, off + k * S.size, rfl, hb, fun i hi => ?_⟩
    rw [List.length_drop] at hi
    have hni : k * S.size + i < l.length * S.size := by
      have : l.length * S.size = k * S.size + (l.length - k) * S.size := by rw [← Nat.add_mul]; congr 1; omega
      omega
    rw [flat_drop S l k i hk, ← hl _ hni, Nat.add_assoc]⟩
theorem at_void (w : World) (a : Addr) (c : Nat) : S.At w (some a) c ([] : List α) := ⟨(fun h => by cases h), fun h => by simp at h⟩
end
section
variable {P : Program} {w : World}
theorem run_append_room_off (t ty e : TypeId) (i : TypeInfo) (ht : P.underlying t = some (.slice e)) (hi : P.info? e = some i)
    (g off sLen sCap : Nat) (cur : Array Value) (hg : w.heap[g]? = some (.cells cur e (0, 0)))
    (a : Addr) (m c : Nat) (news : List Value) (hl : news.length = m * i.size) (hnews : ∀ j u, news[j]? = some u → w.cell? (a.add j) = some u) (h1 : ∀ u ∈ news, u.oneCell' = true)
    (hroom : sLen + m ≤ sCap) (hfit : off + sLen * i.size + news.length ≤ cur.size) :
    (Builtin.append_ #[t, t] ty #[.slice (some ⟨g, off, none⟩) sLen sCap, .slice (some a) m c]).run P w =
      .ok (.slice (some ⟨g, off, none⟩) (sLen + m) sCap) (w.setRow g (cur.toList.take (off + sLen * i.size) ++ news ++ cur.toList.drop (off + sLen * i.size + news.length)).toArray) := by
  have hf := run_firstCells_some (P := P) w i.size m a m c news hl hnews
  have hst := run_storeCells_at P g (off + sLen * i.size) e news 0 cur w hg (by simpa using hfit) h1
  simp only [Nat.add_zero] at hst
  simp [Builtin.append_, run_underlying ht, sizeOf, typeInfo, hi, Builtin.lenOf, hroom, hf, Addr.add_lit, hst]
/-- 'append(v, ys...)', v the call's own, cut in front or not, or nil; ys whatever reads as a list: in one law. -/
theorem run_append_que {α : Type} (S : Shape α) (base : Nat) (t ty e : TypeId) (i : TypeInfo) (z : Value) (bytes : Nat) (ht : P.underlying t = some (.slice e)) (hi : P.info? e = some i) (hz : i.zero = some z)
    (hsize : i.size = S.size) (hby : i.bytes = bytes) (hzs : z.cells.size = S.size) (v : Value) (n : Nat) (xs ys : List α) (hown : Que S w base e v n xs) (sa : Option Addr) (c : Nat) (hy : S.At w sa c ys)
    (h63 : n + ys.length ≤ maxLen) (hbytes : (n + ys.length) * bytes ≤ 140737488355328) (hbase : base ≤ w.heap.size) :
    ∃ ra rc w', (Builtin.append_ #[t, t] ty #[v, .slice sa ys.length c]).run P w = .ok (.slice ra (n + ys.length) rc) w' ∧ Que S w' base e (.slice ra (n + ys.length) rc) (n + ys.length) (xs ++ ys) ∧ w.grownBy w' v.ownBlock ∧ (∀ g, (Value.slice ra (n + ys.length) rc).ownBlock = some g → v.ownBlock = some g ∨ g = w.heap.size) := by
  obtain ⟨h1, h2⟩ := hown
  rcases h2 with ⟨rfl, rfl⟩ | ⟨g, off, cap, cur, rfl, hbg, hg, hnc, hcm, hcs, hcur⟩
  · have e0 : xs = [] := List.eq_nil_of_length_eq_zero h1
    subst e0
    obtain ⟨ra, rc, w', hr, h3, h4, h5⟩ := run_append_at (P := P) S base t ty e i z bytes ht hi hz hsize hby hzs (.slice none 0 0) [] ys (World.ownsRow_nil _ _ _ _) sa c hy h63 hbytes hbase
    exact ⟨ra, rc, w', hr, que_own h3 (by simp), h4, h5⟩
  · subst h1
    by_cases h0 : 0 < ys.length
    · obtain ⟨b, o, rfl, hb, hl⟩ := hy.2 h0
      have hnews : ∀ j u, (S.flat ys)[j]? = some u → w.cell? ((⟨b, o, none⟩ : Addr).add j) = some u := fun j u hj => by
        have hlt := (List.getElem?_eq_some_iff.1 hj).1
        rw [S.flat_len] at hlt
        rw [Go.WideShapes.add_plain, hl j hlt]
        exact hj
      have hnl : (S.flat ys).length = ys.length * i.size := by rw [S.flat_len, hsize]
      have hN : (xs.length + ys.length) * S.size = xs.length * S.size + ys.length * S.size := Nat.add_mul _ _ _
      by_cases hroom : xs.length + ys.length ≤ cap
      · have hle : (xs.length + ys.length) * S.size ≤ cap * S.size := Nat.mul_le_mul_right _ hroom
        have hr := run_append_room_off (P := P) t ty e i ht hi g off xs.length cap cur hg ⟨b, o, none⟩ ys.length c (S.flat ys) hnl hnews (S.flat_one ys) hroom (by rw [hnl, hsize]; omega)
        refine ⟨_, cap, _, hr, ⟨by rw [List.length_append], Or.inr ⟨g, off, cap, _, rfl, hbg, setRow_heap w g cur _ e _ hg, hroom, hcm, ?_, fun k hk => ?_⟩⟩, ⟨rfl, rfl, rfl, by simp, fun k _ hk => setRow_other w g k _ (fun e => hk (by simp [Value.ownBlock, e]))⟩, fun k hk => Or.inl hk⟩
        · simp only [List.size_toArray, List.length_append, List.length_take, List.length_drop, Array.length_toList]
          rw [hnl, hsize]
          omega
        · rw [List.getElem?_toArray, S.flat_app, hsize]
          have htl : (cur.toList.take (off + xs.length * S.size)).length = off + xs.length * S.size := by
            have hcl : cur.toList.length = cur.size := Array.length_toList
            rw [List.length_take, hcl]
            omega
          by_cases hkx : k < xs.length * S.size
          · rw [List.append_assoc, List.getElem?_append_left (by rw [htl]; omega), List.getElem?_take_of_lt (by omega), Array.getElem?_toList, hcur k hkx, List.getElem?_append_left (by rw [S.flat_len]; exact hkx)]
          · rw [List.append_assoc, List.getElem?_append_right (by rw [htl]; omega), htl, List.getElem?_append_left (by rw [S.flat_len]; omega), List.getElem?_append_right (by rw [S.flat_len]; omega), S.flat_len]
            congr 1
            omega
      · have hfit := growslice_fits (old := cap) (need := xs.length + ys.length) (by omega) hbytes
        have hsm : ((xs.length + ys.length : Nat) : Int) ≤ 9223372036854775807 := by unfold maxLen at h63; omega
        have hr := run_append_grow (P := P) w t ty e i z ht hi hz ⟨g, off, none⟩ xs.length cap (S.flat xs) (by rw [S.flat_len, hsize]) (fun j u hj => by
          have hlt := (List.getElem?_eq_some_iff.1 hj).1
          rw [S.flat_len] at hlt
          rw [Go.WideShapes.add_plain, cell_of_row w g _ _ _ _ hg, hcur j hlt]
          exact hj) ⟨b, o, none⟩ ys.length c (S.flat ys) hnl hnews (by omega) hsm (by rw [hby]; exact hfit)
        have hge := grownCap_ge w (xs.length + ys.length) cap e
        have hcm2 := grownCap_le_maxLen w (xs.length + ys.length) cap e h63
        have hle : (xs.length + ys.length) * S.size ≤ grownCap w (xs.length + ys.length) cap e * S.size := Nat.mul_le_mul_right _ hge
        refine ⟨_, _, _, hr, ⟨by rw [List.length_append], Or.inr ⟨w.heap.size, 0, _, _, rfl, hbase, heap_alloc_new w.drew _, hge, hcm2, ?_, fun k hk => ?_⟩⟩, ⟨rfl, rfl, rfl, by simp, fun k hk _ => Below.heap_alloc w.drew _ k hk⟩, fun k hk => Or.inr (by simpa [Value.ownBlock] using hk.symm)⟩
        · simp only [Array.size_append, List.size_toArray, size_zeroCells, hzs, S.flat_len]
          rw [Nat.sub_mul]
          omega
        · rw [Nat.zero_add, Array.getElem?_append_left (by simp only [Array.size_append, List.size_toArray, S.flat_len]; omega), S.flat_app, ← Array.getElem?_toList, Array.toList_append]
    · have e0 : ys = [] := List.eq_nil_of_length_eq_zero (by omega)
      subst e0
      rw [List.append_nil, List.length_nil, Nat.add_zero]
      have hQ : Que S w base e (.slice (some ⟨g, off, none⟩) xs.length cap) xs.length xs := ⟨rfl, Or.inr ⟨g, off, cap, cur, rfl, hbg, hg, hnc, hcm, hcs, hcur⟩⟩
      refine ⟨_, _, w, ?_, hQ, ⟨rfl, rfl, rfl, Nat.le_refl _, fun _ _ _ => rfl⟩, fun k hk => Or.inl hk⟩
      cases sa with
      | none =>
        obtain ⟨rfl, _⟩ := hy.1 rfl
        simp [Builtin.append_, run_underlying ht, sizeOf, typeInfo, hi, Builtin.lenOf, Builtin.firstCells, hnc, storeCells, loadCells, Sem.run_bind]
      | some a =>
        simp [Builtin.append_, run_underlying ht, sizeOf, typeInfo, hi, Builtin.lenOf, Builtin.firstCells, hnc, storeCells, loadCells, loadCellsFrom, Sem.run_bind]
/-- At the list of a plain region's operations. -/
theorem wpList_append_que {α : Type} (S : Shape α) {ops : Array Oper} {rest : List Oper} {o : Oper} {a : Act} {Q : Exit → Act → World → Prop} (hgd : o.guard = none) (s x : Operand) (t : TypeId)
    (ho : o.op = .call { callee := .builtin .append, args := #[s, x], argTypes := #[t, t] })
    (base : Nat) (e : TypeId) (i : TypeInfo) (z : Value) (bytes : Nat) (ht : P.underlying t = some (.slice e)) (hi : P.info? e = some i) (hz : i.zero = some z)
    (hsize : i.size = S.size) (hby : i.bytes = bytes) (hzs : z.cells.size = S.size) (v : Value) (n : Nat) (xs ys : List α) (hs : a.eval s = v) (hown : Que S w base e v n xs) (sa : Option Addr) (m c : Nat) (hx : a.eval x = .slice sa m c) (hm : Hid (ys.length = m)) (hy : S.At w sa c ys)
    (h63 : n + m ≤ maxLen) (hbytes : (n + m) * bytes ≤ 140737488355328) (hbase : base ≤ w.heap.size)
    (h : ∀ ra rc w', Que S w' base e (.slice ra (n + m) rc) (n + m) (xs ++ ys) → w.grownBy w' v.ownBlock → (∀ g, (Value.slice ra (n + m) rc).ownBlock = some g → v.ownBlock = some g ∨ g = w.heap.size) → wpList P ops Q rest (a.put o.dst (.slice ra (n + m) rc)) w') : wpList P ops Q (o :: rest) a w := by
  refine wpList_plain hgd fun K hK => ?_
  have e := hm.out
  subst e
  obtain ⟨ra, rc, w', hr, h2, h3, h4⟩ := run_append_que (P := P) S base t o.type _ i z bytes ht hi hz hsize hby hzs v n xs ys hown sa c hy h63 hbytes hbase
  unfold Oper.wp execOp
  simp only [ho, resolve, invoke, builtin, Sem.run_bind, Sem.run_pure, Result.andThen_ok, List.map_toArray, List.map_cons, List.map_nil, hs, hx, hr]
  exact hK _ _ (h ra rc w' h2 h3 h4)
/-- At a step of a region that draws its order. -/
theorem step_append_que {α : Type} (S : Shape α) {ops : Array Oper} {o : Oper} {a : Act} {K : Act → World → Prop} {Q : Exit → Act → World → Prop} {E : Prop} (hgd : o.guard = none) (s x : Operand) (t : TypeId)
    (ho : o.op = .call { callee := .builtin .append, args := #[s, x], argTypes := #[t, t] })
    (base : Nat) (e : TypeId) (i : TypeInfo) (z : Value) (bytes : Nat) (ht : P.underlying t = some (.slice e)) (hi : P.info? e = some i) (hz : i.zero = some z)
    (hsize : i.size = S.size) (hby : i.bytes = bytes) (hzs : z.cells.size = S.size) (v : Value) (n : Nat) (xs ys : List α) (hs : a.eval s = v) (hown : Que S w base e v n xs) (sa : Option Addr) (m c : Nat) (hx : a.eval x = .slice sa m c) (hm : Hid (ys.length = m)) (hy : S.At w sa c ys)
    (h63 : n + m ≤ maxLen) (hbytes : (n + m) * bytes ≤ 140737488355328) (hbase : base ≤ w.heap.size)
    (h : ∀ ra rc w', Que S w' base e (.slice ra (n + m) rc) (n + m) (xs ++ ys) → w.grownBy w' v.ownBlock → (∀ g, (Value.slice ra (n + m) rc).ownBlock = some g → v.ownBlock = some g ∨ g = w.heap.size) → K (a.put o.dst (.slice ra (n + m) rc)) w') :
    if Region.wanted o (yielded ops a.tmps) = true then Oper.wp P o a w K Q else E := by
  have hw : Region.wanted o (yielded ops a.tmps) = true := by simp [Region.wanted, hgd]
  rw [if_pos hw]
  have e := hm.out
  subst e
  obtain ⟨ra, rc, w', hr, h2, h3, h4⟩ := run_append_que (P := P) S base t o.type _ i z bytes ht hi hz hsize hby hzs v n xs ys hown sa c hy h63 hbytes hbase
  unfold Oper.wp execOp
  simp only [ho, resolve, invoke, builtin, Sem.run_bind, Sem.run_pure, Result.andThen_ok, List.map_toArray, List.map_cons, List.map_nil, hs, hx, hr]
  exact h ra rc w' h2 h3 h4
end
end Go.Proofs.Yteabdbgllafafaa
