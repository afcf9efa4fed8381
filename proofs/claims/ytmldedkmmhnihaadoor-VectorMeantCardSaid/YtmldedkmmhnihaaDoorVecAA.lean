/- The walk of vector's newTable. -/
import Derived.Test.YtmldedkmmhnihaaDoorVecZ
namespace Go.Proofs.YtmldedkmmhnihaaDoor
open Go.RowKit

theorem info_slot : (Tryd.prog.info? 34).map (fun i => (i.zero, i.size, i.bytes)) = some (some (.agg #[.int .i64 0, .int .i64 0]), 2, 16) := by kernel_rfl
theorem zeros_at (n k : Nat) (h : k < n * 2) : (madeCells (Value.agg #[.int .i64 0, .int .i64 0]).cells (n * 2)).toList[k]? = some (Value.int .i64 0) := by
  unfold madeCells
  rw [Array.getElem?_toList, Array.getElem?_map, Array.getElem?_range]
  rw [if_pos h]
  have h2 : k % 2 = 0 ∨ k % 2 = 1 := by omega
  show some ((#[Value.int .i64 0, Value.int .i64 0] : Array Value)[k % 2]!) = _
  rcases h2 with e | e <;> rw [e] <;> rfl
theorem zs_at (n j : Nat) : (List.replicate n zs).getD j zs = zs := by
  rw [List.getD_eq_getElem?_getD, List.getElem?_replicate]
  split <;> rfl
theorem slots_made {w : World} {base B n cap : Nat} (h : w.ownsRow base 34 2 (.slice (some ⟨B, 0, none⟩) n cap) n (madeCells (Value.agg #[.int .i64 0, .int .i64 0]).cells (n * 2)).toList) : SlotRow w B (List.replicate n zs) := by
  obtain ⟨h1, h2⟩ := h
  rcases h2 with ⟨h2, _⟩ | ⟨g, cp, cur, e, _, hc, _, _, hsz, ht⟩
  · cases h2
  · simp only [Value.slice.injEq, Option.some.injEq, Addr.mk.injEq, and_true, true_and] at e
    obtain ⟨rfl, rfl⟩ := e
    refine ⟨cur, hc, fun j hj => ?_⟩
    rw [List.length_replicate] at hj
    rw [zs_at]
    have hk : ∀ k, k < n * 2 → cur[k]? = some (Value.int .i64 0) := fun k hk => by
      rw [← zeros_at n k hk, ← ht, List.getElem?_take_of_lt hk, Array.getElem?_toList]
    exact ⟨hk _ (by omega), hk _ (by omega)⟩
theorem cnt_zero (n c : Nat) : cntV (List.replicate n zs) c = 0 := by
  unfold cntV
  rw [List.countP_replicate]
  simp [onC, zs]
theorem free_zero (n c v : Nat) : freeV (List.replicate n zs) c v = decide (32 ≤ v) := by
  apply bool_ext
  rw [freeV_iff, decide_eq_true_iff]
  constructor
  · exact fun h => h.1
  · intro h
    refine ⟨h, fun j s hj h0 => ?_⟩
    rw [List.getElem?_replicate] at hj
    split at hj
    · cases hj
      exact absurd h0 (by decide)
    · cases hj
/-- What the loop keeps. -/
def NewV (W : Base) (T B cores n k : Nat) (w : World) : Prop := ∃ fr tk, RawV W T B cores (List.replicate n zs) fr tk w ∧ (∀ c, tk c = 0) ∧ ∀ c, c < k → (fr c).ok ∧ ∀ v, v < 256 → (fr c).mem v = decide (32 ≤ v)
theorem NewV.done {W : Base} {T B cores n : Nat} {w : World} (h : NewV W T B cores n cores w) (h8 : cores ≤ 8) (hn : n ≤ 2000) : VS W T B cores (List.replicate n zs) w := by
  obtain ⟨fr, tk, r, ht, hf⟩ := h
  exact ⟨⟨h8, by simpa using hn, good_zero cores n⟩, fr, tk, r, fun c hc => ⟨(hf c hc).1, fun v hv => by rw [(hf c hc).2 v hv, free_zero], by rw [ht, cnt_zero]⟩⟩
set_option maxHeartbeats 1000000 in
set_option maxRecDepth 100000 in
theorem newTable_VS (w : World) (cores n : Nat) (h8 : cores ≤ 8) (hn : n ≤ 2000) :
    Calls Tryd.prog 10 #[.int .i64 cores, .int .i64 n] w fun e w' => ∃ T B, e = .returned (.pointer (some ⟨T, 0, none⟩)) ∧ VS ⟨w, T + B + 1, none⟩ T B cores (List.replicate n zs) w' := by
  obtain ⟨i0, hi, hz0, hz1, hz2⟩ := info_parts info_slot
  go_enter Tryd.func10, Tryd.ntmps10
  go_wp2_with (first
    | (at_make; refine wpList_make_full _ rfl _ _ 27 rfl w.heap.size 34 i0 _ 2 Tryd.underlying27 hi hz0 hz1 .i64 .i64 _ _ n rfl rfl rfl rfl ?c1 ?c2 (Nat.le_refl _) ?_)
    | fail)
  case c1 => rw [hz2]; omega
  case c2 => unfold maxLen; omega
  intro w1 hown hgrow
  have B1 : Below w.heap.size w w1 := (Below.refl _ _).grown hgrow (Nat.le_refl _) (fun k hk => by cases hk)
  have S1 := slots_made hown
  have L1 := S1.lt
  have HS := Lib.hid S1
  clear hown hgrow S1
  go_wp2_with fail
  go_loopw [6, 13] (fun _ i wr => ∃ k : Nat, k ≤ cores ∧ i = .int .i64 k ∧ NewV ⟨w, w1.heap.size + w.heap.size + 1, none⟩ w1.heap.size w.heap.size cores n k wr) (fun _ i _ => cores - (intOf i).toNat)
  case atStart =>
    have e8 : ∀ c, c < 8 → c = 0 ∨ c = 1 ∨ c = 2 ∨ c = 3 ∨ c = 4 ∨ c = 5 ∨ c = 6 ∨ c = 7 := fun c h => by omega
    refine ⟨0, Nat.zero_le _, rfl, fun _ => ⟨0, 0, 0, 0⟩, fun _ => 0, ⟨B1.alloc (by show w.heap.size ≤ w1.heap.size; omega) _, ⟨by show w.heap.size ≤ w1.heap.size; omega, Nat.le_refl _, by omega⟩, HS.out.same (Below.heap_alloc _ _ _ L1), ⟨_, heap_alloc_new w1 _, rfl, ?_, fun c hc => ?_, fun c hc => ?_⟩, by show ¬ w1.heap.size + w.heap.size + 1 = w1.heap.size; omega, by show ¬ w1.heap.size + w.heap.size + 1 = w.heap.size; omega, fun o ho => by cases ho⟩, fun _ => rfl, fun c hc => by omega⟩
    · rw [List.length_replicate]
      rfl
    · rcases e8 c hc with rfl | rfl | rfl | rfl | rfl | rfl | rfl | rfl <;> exact ⟨rfl, rfl, rfl, rfl⟩
    · rcases e8 c hc with rfl | rfl | rfl | rfl | rfl | rfl | rfl | rfl <;> rfl
  case round =>
    obtain ⟨k, hk, rfl, fr, tk, R0, ht, hf⟩ := hrel
    by_cases hkl : k < cores
    · have hk8 : k < 8 := by omega
      have hT := R0.2.2.2.1.lt
      have fT := R0.frozenT
      obtain ⟨f0, f1, f2, f3⟩ := R0.free hk8
      have HR := Lib.hid R0
      have HF := Lib.hid hf
      have HT := Lib.hid ht
      clear R0 hf ht
      go_wp2_with fail
      go_region_with (first
        | (go_at_call 12; ((with_reducible refine (allV_any _).mono ?_); rintro e w2 ⟨q, rfl, hok, hm, hb2⟩; have G3 := bat' hb2 w1.heap.size hT; have HR2 := Lib.hid (HR.out.drew.step hb2); have HM := Lib.hid hm; have HO := Lib.hid hok; clear hb2 hm hok)))
      all_goals go_wp2_with fail
      all_goals go_roundw
      case rel =>
        refine ⟨k + 1, by omega, by go_num, _, tk, HR2.out.putF hk8 q, HT.out, fun c hc => ?_⟩
        by_cases e : c = k
        · subst e
          simp only [if_true]
          exact ⟨HO.out, HM.out⟩
        · simp only [if_neg e]
          exact HF.out c (by omega)
      case measure => simp [intOf]; omega
    · obtain rfl : k = cores := by omega
      have HN : NewV ⟨w, w1.heap.size + w.heap.size + 1, none⟩ w1.heap.size w.heap.size k n k wr := ⟨fr, tk, R0, ht, hf⟩
      clear hkl hk R0 ht hf
      go_wp2_with fail
      go_ret
      exact ⟨_, _, rfl, HN.done h8 hn⟩
end Go.Proofs.YtmldedkmmhnihaaDoor
