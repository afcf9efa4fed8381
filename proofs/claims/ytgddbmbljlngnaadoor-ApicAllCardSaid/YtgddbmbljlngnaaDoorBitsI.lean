/- The contract of bits.Next from any number that is not negative, and the walk of bits.All: it hands back the members, rising, in new memory. -/
import Derived.Test.YtgddbmbljlngnaaDoorBitsH
namespace Go.Proofs.YtgddbmbljlngnaaDoor
open Go.RowKit

theorem next_int (a b c d : Nat) (f : Int) (w : World) (h : Ok a b c d) (hT : Tab w) (h0 : 0 ≤ f) :
    Calls Tryd.prog 32 #[.agg #[.int .u64 a, .int .u64 b, .int .u64 c, .int .u64 d], .int .i64 f] w fun e w' => e = .returned (.int .i64 (nextOf (mem a b c d) f)) ∧ Below w.heap.size w w' := by
  by_cases hf : f < 256
  · obtain ⟨n, rfl⟩ : ∃ n : Nat, f = n := ⟨f.toNat, by omega⟩
    exact next_any a b c d n w h hT (by omega)
  · rw [nextOf_none (p := mem a b c d) (f := f) (fun m hm hfm => by omega)]
    exact next_out a b c d f w (by omega)

/-- A set in a variable of its own. -/
def Box (w : World) (B a b c d : Nat) : Prop := w.heap[B]? = some (.cells #[.int .u64 a, .int .u64 b, .int .u64 c, .int .u64 d] 24 (0, 0))
theorem Box.cells {w : World} {B a b c d : Nat} (h : Box w B a b c d) : w.cell? ⟨B, 0, none⟩ = some (.int .u64 a) ∧ w.cell? ⟨B, 1, none⟩ = some (.int .u64 b) ∧ w.cell? ⟨B, 2, none⟩ = some (.int .u64 c) ∧ w.cell? ⟨B, 3, none⟩ = some (.int .u64 d) := by
  unfold Box at h
  refine ⟨?_, ?_, ?_, ?_⟩ <;> (rw [cell_of_row w B _ _ _ _ h]; rfl)
theorem Box.lt {w : World} {B a b c d : Nat} (h : Box w B a b c d) : B < w.heap.size := by
  unfold Box at h
  exact (Array.getElem?_eq_some_iff.1 h).1
theorem Box.below {w w' : World} {B M a b c d : Nat} (h : Box w B a b c d) (hb : Below M w w') (hM : B < M) : Box w' B a b c d := by
  unfold Box at h ⊢
  rw [hb.block B hM]
  exact h
theorem own_below {w w' : World} {base e size n : Nat} {v : Value} {xs : List Value} (h : w.ownsRow base e size v n xs) (hb : Below w.heap.size w w') : w'.ownsRow base e size v n xs := by
  obtain ⟨h1, h2⟩ := h
  refine ⟨h1, ?_⟩
  rcases h2 with h2 | ⟨g, cap, cur, hv, hg, hh, r⟩
  · exact Or.inl h2
  · exact Or.inr ⟨g, cap, cur, hv, hg, by rw [hb.block g ((Array.getElem?_eq_some_iff.1 hh).1)]; exact hh, r⟩

/-- The members below k. -/
def upto (p : Nat → Bool) (k : Nat) : List Nat := (List.range k).filter p
def ints (l : List Nat) : List Value := l.map (fun n : Nat => Value.int .i64 (n : Int))
def measI (x : Int) : Nat := if x < 0 then 0 else (257 - x).toNat
def meas (v : Value) : Nat := measI (intOf v)
theorem measI_lt (p : Nat → Bool) (n : Nat) (hn : n < 256) : measI (nextOf p ((n : Int) + 1)) < measI (n : Int) := by
  unfold measI
  rcases nextOf_cases p ((n : Int) + 1) with ⟨h, _⟩ | ⟨m, h, h1, h2, h3, h4⟩
  · rw [h]; rw [if_pos (by omega), if_neg (by omega)]; omega
  · rw [h]; rw [if_neg (by omega), if_neg (by omega)]; omega
theorem meas_lt (p : Nat → Bool) (n : Nat) (hn : n < 256) : meas (.int .i64 (nextOf p ((n : Int) + 1))) < meas (.int .i64 (n : Int)) := measI_lt p n hn

theorem info_int : (Tryd.prog.info? 3).map (fun i => (i.zero, i.size, i.bytes)) = some (some (.int .i64 0), 1, 8) := by kernel_rfl

/-- What the loop of bits.All keeps: 'w' is the world in which the call began. -/
def Gathers (w : World) (a b c d k : Nat) (v : Value) (wr : World) : Prop :=
  wr.ownsRow (w.heap.size + 1) 3 1 v (upto (mem a b c d) k).length (ints (upto (mem a b c d) k)) ∧ Box wr w.heap.size a b c d ∧ Below w.heap.size w wr

theorem gathers_step {w wr w1 w2 : World} {a b c d k n : Nat} {v v' : Value} {o : Obj} (h : Gathers w a b c d k v wr) (hkn : k ≤ n) (hp : mem a b c d n = true)
    (hl : ∀ m, m < n → (k : Int) ≤ (m : Int) → mem a b c d m = false)
    (hown' : w1.ownsRow (w.heap.size + 1) 3 1 v' ((upto (mem a b c d) k).length + 1) (ints (upto (mem a b c d) k) ++ [.int .i64 (n : Int)])) (hgrow : (wr.alloc o).grownBy w1 v.ownBlock)
    (hb : Below w1.heap.size w1 w2) : Gathers w a b c d (n + 1) v' w2 := by
  obtain ⟨hown, hbox, hbel⟩ := h
  have hB := hbox.lt
  have e : upto (mem a b c d) (n + 1) = upto (mem a b c d) k ++ [n] := filter_step _ k n hkn hp hl
  have h1 : Below (w.heap.size + 1) wr w1 := ((Below.refl _ _).alloc (by omega) o).grown hgrow (by simp; omega) (fun j hj => (hown.lt j hj).1)
  have hs : wr.heap.size ≤ w1.heap.size := h1.size
  refine ⟨?_, (hbox.below h1 (by omega)).below hb (by omega), (hbel.trans (h1.mono (by omega))).trans (hb.mono (by omega))⟩
  rw [e]
  have := own_below hown' hb
  simpa [ints] using this
/-- Behind the append, ahead of the next call. -/
theorem gathers_mid {w wr w1 : World} {a b c d k : Nat} {v : Value} {o : Obj} (h : Gathers w a b c d k v wr) (hT : Tab w) (hgrow : (wr.alloc o).grownBy w1 v.ownBlock) : Box w1 w.heap.size a b c d ∧ Tab w1 := by
  obtain ⟨hown, hbox, hbel⟩ := h
  have hB := hbox.lt
  have h1 : Below (w.heap.size + 1) wr w1 := ((Below.refl _ _).alloc (by omega) o).grown hgrow (by simp; omega) (fun j hj => (hown.lt j hj).1)
  exact ⟨hbox.below h1 (by omega), hT.below (hbel.trans (h1.mono (by omega)))⟩

theorem upto_len (p : Nat → Bool) (k : Nat) : (upto p k).length ≤ k := filter_len p k

set_option maxHeartbeats 1000000 in
set_option maxRecDepth 100000 in
theorem all_any (a b c d : Nat) (w : World) (h : Ok a b c d) (hT : Tab w) :
    Calls Tryd.prog 17 #[.agg #[.int .u64 a, .int .u64 b, .int .u64 c, .int .u64 d]] w fun e w' =>
      ∃ v, e = .returned v ∧ w'.ownsRow (w.heap.size + 1) 3 1 v (allOf (mem a b c d)).length (ints (allOf (mem a b c d))) ∧ Below w.heap.size w w' := by
  obtain ⟨i0, hi, hz0, hz1, hz2⟩ := info_parts info_int
  have HT := Lib.hid hT
  have HO := Lib.hid h
  clear hT h
  go_enter Tryd.func17, Tryd.ntmps17
  go_wp2_with (go_at_call 32; refine (next_int a b c d 0 _ HO.out (HT.out.below ((Below.refl _ _).alloc (Nat.le_refl _) _)) (by omega)).mono ?_; rintro e w' ⟨rfl, hb⟩)
  have HG : Gathers w a b c d 0 (.slice none 0 0) w' := ⟨World.ownsRow_nil _ _ _ _, Box.below (heap_alloc_new w _) hb (by simp), ((Below.refl _ _).alloc (Nat.le_refl _) _).trans (hb.mono (by simp))⟩
  clear hb
  go_loopw [3, 4] (fun v i wr => ∃ k : Nat, k ≤ 256 ∧ i = .int .i64 (nextOf (mem a b c d) (k : Int)) ∧ Gathers w a b c d k v wr) (fun _ i _ => meas i)
  case atStart => exact ⟨0, by omega, rfl, HG⟩
  case round =>
    clear HG
    obtain ⟨k, hk, rfl, HG⟩ := hrel
    rcases nextOf_cases (mem a b c d) (k : Int) with ⟨hn, hall⟩ | ⟨n, hn, hn1, hp, hkn, hl⟩
    · rw [hn]
      have HA := Lib.hid hall
      clear hn hall
      go_wp2_with fail
      go_ret
      obtain ⟨g1, g2, g3⟩ := HG
      exact ⟨_, rfl, by rw [filter_end _ k hk HA.out]; exact g1, g3⟩
    · rw [hn]
      have HL := Lib.hid hl
      have HP := Lib.hid hp
      clear hn hl hp
      have HB : Box wr w.heap.size a b c d := HG.2.1
      have hlen := upto_len (mem a b c d) k
      go_wp2_with (first
        | (at_builtin; refine wpList_append_own _ rfl _ _ 36 rfl (w.heap.size + 1) 3 i0 (.int .i64 0) 1 8 Tryd.underlying36 hi hz0 hz1 hz2 rfl (by decide) _ _ _ rfl (HG.1.alloc _) ⟨wr.heap.size, 0, none⟩ 1 1 [.int .i64 (n : Int)] rfl rfl ?c1 ?c2 ?c3 ?c4 ?c5 ?_)
        | fail)
      case c1 =>
        intro j u hj
        match j, hj with
        | 0, hj => simp at hj; subst hj; simp [Addr.add]
      case c2 => intro u hu; simp at hu; subst hu; rfl
      case c3 => unfold maxLen; omega
      case c4 => omega
      case c5 => have := HB.lt; simp; omega
      · intro v' w1 hown' hgrow _
        obtain ⟨hbox1, htab1⟩ := gathers_mid HG HT.out hgrow
        have HGR := Lib.hid hgrow
        have HOW := Lib.hid hown'
        have HT1 := Lib.hid htab1
        obtain ⟨c0, c1, c2, c3⟩ := hbox1.cells
        clear hgrow hown' htab1 hbox1 HB hlen
        go_wp2_with (go_at_call 32; refine (next_int a b c d ((n : Int) + 1) _ HO.out HT1.out (by omega)).mono ?_; rintro e w2 ⟨rfl, hb⟩)
        go_roundw
        case rel => exact ⟨n + 1, by omega, rfl, gathers_step HG (by omega) HP.out HL.out HOW.out HGR.out hb⟩
        case measure => exact meas_lt _ n hn1
end Go.Proofs.YtgddbmbljlngnaaDoor
