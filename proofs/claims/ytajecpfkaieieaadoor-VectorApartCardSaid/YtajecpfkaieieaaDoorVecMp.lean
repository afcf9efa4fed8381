/- The map of slots that VectorApart makes: what its operations do. -/
import Derived.Test.YtajecpfkaieieaaDoorVecQ
import Derived.DeepKeys4
import Derived.MapViews
import Derived.WideKeyEntry
import Derived.Lib.SmallJoins
namespace Go.Proofs.YtajecpfkaieieaaDoor
open Go.RowKit Go.ChangeShapes Go.WideShapes Go.WideElems Go.Joins
open Go.WideMaps (KeyLaw)
open Go.ChangeMaps (setBlock)

theorem mp_laid : laidOutB Tryd.prog = true := by kernel_rfl
theorem mp_row : (31 : TypeId) < Tryd.prog.types.size := of_decide_eq_true (by kernel_rfl)
theorem mp_wide : (match Tryd.prog.underlying 31 with | some (.array _ _) | some (.struct _) => true | _ => false) = true := by rw [Tryd.underlying31]
theorem mp_law : KeyLaw Tryd.prog 31 := deep_law_laid mp_laid (m := 2) (by omega) mp_row (by kernel_rfl) mp_wide
theorem mp_cells : Tryd.prog.cellsOf 31 = 2 := by kernel_rfl
theorem mp_deep : Tryd.prog.keyTypeAt (Tryd.prog.types.size + 1) 31 = true := by kernel_rfl
theorem mp_zero (w : World) : (zeroValue 3).run Tryd.prog w = .ok (.int .i64 0) w := by kernel_rfl
def keyV (s : SlotT) : Value := .agg #[.int .i64 (s.core : Int), .int .i64 (s.vec : Int)]
theorem keyV_inj {s t : SlotT} (h : keyV s = keyV t) : s = t := by
  cases s; cases t
  simp [keyV] at h
  simp
  omega
theorem wf_nat {n : Nat} (h : n < 9223372036854775808) : (Lit.int .i64 (n : Int)).wf = true := WalkArith.wf_i64 (by omega)
theorem keyV_key {s : SlotT} (h1 : s.core < 9223372036854775808) (h2 : s.vec < 9223372036854775808) : ∃ l, keyOf Tryd.prog 31 (keyV s) = some l := by
  have hT : DataW.Trod (fun _ => (0 : Nat)) Tryd.prog (default : World) 0 (fun _ => true) true 31 (keyV s) (.agg [.lit (.int .i64 (s.core : Int)), .lit (.int .i64 (s.vec : Int))]) [] :=
    shut_agg2 (y0 := (.lit (.int .i64 (s.core : Int)), [])) (y1 := (.lit (.int .i64 (s.vec : Int)), [])) Tryd.underlying31 (by kernel_rfl) mp_cells ⟨1, by simp [DataW.trod, Tryd.underlying3, wf_nat h1]⟩ ⟨1, by simp [DataW.trod, Tryd.underlying3, wf_nat h2]⟩
  exact ⟨_, (keyOf_asKey mp_deep mp_wide (by simp [keyV, Value.formed, Tryd.underlying31, mp_cells]) hT).1⟩
/-- An entry of the map. -/
def entV (s : SlotT) (i : Nat) : MapEntry := ⟨keyV s, .int .i64 1, i⟩
def entsV : List SlotT → List MapEntry
  | [] => []
  | s :: l => entsV l ++ [entV s l.length]
theorem entsV_len : ∀ l : List SlotT, (entsV l).length = l.length
  | [] => rfl
  | s :: l => by simp [entsV, entsV_len l]
theorem entsV_born : ∀ (l : List SlotT) (x : MapEntry), x ∈ entsV l → x.born < l.length
  | [], x, h => by simp [entsV] at h
  | s :: l, x, h => by
    simp only [entsV, List.mem_append, List.mem_singleton] at h
    rcases h with h | rfl
    · have := entsV_born l x h
      simp; omega
    · simp [entV]
theorem entsV_key : ∀ (l : List SlotT) (x : MapEntry), x ∈ entsV l → ∃ s, s ∈ l ∧ x.key = keyV s
  | [], x, h => by simp [entsV] at h
  | s :: l, x, h => by
    simp only [entsV, List.mem_append, List.mem_singleton] at h
    rcases h with h | rfl
    · obtain ⟨t, ht, e⟩ := entsV_key l x h
      exact ⟨t, List.mem_cons_of_mem _ ht, e⟩
    · exact ⟨s, List.mem_cons_self, rfl⟩
def lastV (s : SlotT) (v : Int) (n : Nat) : MapEntry := ⟨keyV s, .int .i64 v, n⟩
/-- The map in block b: each of the slots once, with 1. -/
def MapV (w : World) (b : Nat) (l : List SlotT) : Prop := w.heap[b]? = some (.map (entsV l).toArray l.length)
def SmallV (l : List SlotT) : Prop := ∀ s, s ∈ l → s.core < 9223372036854775808 ∧ s.vec < 9223372036854775808
section
variable {w : World} {b : Nat} {l : List SlotT} {s : SlotT}
theorem mp_keys (hl : SmallV l) : ∀ e ∈ entsV l, ∃ k, keyOf Tryd.prog 31 e.key = some k := fun e he => by
  obtain ⟨t, ht, ek⟩ := entsV_key l e he
  rw [ek]
  exact keyV_key (hl t ht).1 (hl t ht).2
theorem mp_absent (hl : SmallV l) (hs : SmallV [s]) (hn : s ∉ l) (w : World) : (Instr.findKey 31 (keyV s) (entsV l)).run Tryd.prog w = .ok none w := by
  obtain ⟨k, hk⟩ := keyV_key (s := s) (hs s (by simp)).1 (hs s (by simp)).2
  rcases mp_law.find w hk (entsV l) (mp_keys hl) with ⟨h1, _⟩ | ⟨j, e, _, h2, h3⟩
  · exact h1
  · obtain ⟨t, ht, ek⟩ := entsV_key l e (List.mem_of_getElem? h2)
    rw [ek] at h3
    rw [keyV_inj h3] at ht
    exact absurd ht hn
/-- A look-up of a slot that is not there yet. -/
theorem mp_look0 (hl : SmallV l) (hs : SmallV [s]) (hn : s ∉ l) (h : MapV w b l) : (Instr.lookup 34 (.map (some b)) (keyV s) false).run Tryd.prog w = .ok (.int .i64 0) w := by
  obtain ⟨k, hk⟩ := keyV_key (s := s) (hs s (by simp)).1 (hs s (by simp)).2
  simp [Instr.lookup, run_underlying Tryd.underlying34, MapKept.run_getObj_map h, mp_law.check w _ hk, mp_absent hl hs hn, Result.andThen]
/-- An entry of zero, the last one. -/
def MapZ (w : World) (b : Nat) (l : List SlotT) (s : SlotT) (v : Int) : Prop := w.heap[b]? = some (.map (entsV l ++ [lastV s v l.length]).toArray (l.length + 1))
theorem mp_last (hl : SmallV l) (hs : SmallV [s]) (hn : s ∉ l) (v : Int) (w : World) : (Instr.findKey 31 (keyV s) (entsV l ++ [lastV s v l.length])).run Tryd.prog w = .ok (some (l.length, .int .i64 v)) w := by
  obtain ⟨k, hk⟩ := keyV_key (s := s) (hs s (by simp)).1 (hs s (by simp)).2
  rcases mp_law.find w hk (entsV l ++ [lastV s v l.length]) (fun e he => by
    simp only [List.mem_append, List.mem_singleton] at he
    rcases he with he | rfl
    · exact mp_keys hl e he
    · exact ⟨k, hk⟩) with ⟨_, h2⟩ | ⟨j, e, h1, h2, h3⟩
  · exact absurd rfl (h2 _ (List.mem_append_right _ (List.mem_singleton.2 rfl)))
  · by_cases hj : j < (entsV l).length
    · rw [List.getElem?_append_left hj] at h2
      obtain ⟨t, ht, ek⟩ := entsV_key l e (List.mem_of_getElem? h2)
      rw [ek] at h3
      rw [keyV_inj h3] at ht
      exact absurd ht hn
    · have hj2 : j < (entsV l ++ [lastV s v l.length]).length := (List.getElem?_eq_some_iff.1 h2).1
      simp only [List.length_append, List.length_singleton] at hj2
      obtain rfl : j = (entsV l).length := by omega
      simp only [List.getElem?_concat_length, Option.some.injEq] at h2
      subst h2
      rw [h1, entsV_len]
      rfl
theorem mp_lookZ (hl : SmallV l) (hs : SmallV [s]) (hn : s ∉ l) {v : Int} (h : MapZ w b l s v) : (Instr.lookup 34 (.map (some b)) (keyV s) false).run Tryd.prog w = .ok (.int .i64 v) w := by
  obtain ⟨k, hk⟩ := keyV_key (s := s) (hs s (by simp)).1 (hs s (by simp)).2
  simp [Instr.lookup, run_underlying Tryd.underlying34, MapKept.run_getObj_map h, mp_law.check w _ hk, mp_last hl hs hn, Result.andThen]
theorem mp_entry (hl : SmallV l) (hs : SmallV [s]) (hn : s ∉ l) (h : MapV w b l) : (Instr.mapEntry 34 (.map (some b)) (keyV s)).run Tryd.prog w = .ok (.tuple #[.int .i64 0, .int .i64 (l.length : Int)]) (setBlock w b (.map (entsV l ++ [lastV s 0 l.length]).toArray (l.length + 1))) := by
  obtain ⟨k, hk⟩ := keyV_key (s := s) (hs s (by simp)).1 (hs s (by simp)).2
  simp [Instr.mapEntry, run_underlying Tryd.underlying34, MapKept.run_getObj_map h, mp_law.check w _ hk, mp_absent hl hs hn, MapKept.run_setObj_map _ h, Result.andThen, setBlock, goInt, lastV]
theorem modify_end {α : Type} (f : α → α) (a : α) (l : List α) : (l ++ [a]).toArray.modify l.length f = (l ++ [f a]).toArray := by
  apply Array.ext'
  rw [Array.toList_modify]
  exact modify_last f a l
theorem mp_store {u v : Int} (h : MapZ w b l s u) : (Instr.entryStore 34 (.map (some b)) (.int .i64 (l.length : Int)) (.int .i64 v)).run Tryd.prog w = .ok () (setBlock w b (.map (entsV l ++ [lastV s v l.length]).toArray (l.length + 1))) := by
  have hidx : (entsV l ++ [lastV s u l.length]).toArray.findIdx? (fun e => ((e.born : Nat) : Int) == ((l.length : Nat) : Int)) = some l.length := by
    rw [findIdx_arr]
    simp only []
    rw [List.findIdx?_append]
    have h0 : (entsV l).findIdx? (fun e => ((e.born : Nat) : Int) == ((l.length : Nat) : Int)) = none := by
      rw [List.findIdx?_eq_none_iff]
      intro x hx
      have := entsV_born l x hx
      simp
      omega
    rw [h0]
    simp [List.findIdx?_cons, entsV_len, lastV]
  have hm : (entsV l ++ [lastV s u l.length]).toArray.modify l.length (fun e : MapEntry => { e with val := .int .i64 v }) = (entsV l ++ [lastV s v l.length]).toArray := by
    have := modify_end (fun e : MapEntry => { e with val := .int .i64 v }) (lastV s u l.length) (entsV l)
    rw [entsV_len] at this
    exact this
  simp [Instr.entryStore, MapKept.run_getObj_map h, asInt, asIntOf, hidx, hm, MapKept.run_setObj_map _ h, Result.andThen, setBlock]
end
end Go.Proofs.YtajecpfkaieieaaDoor
