/- Package lift: corebellref.SWay, SParts. (Made at a stand-in, ahead of stage 19: no function of the project's in sight.) -/
import Derived.Test.YteabdbgllafafaaLiftR
import Derived.Test.YteabdbgllafafaaSrtI
import Derived.Test.YteabdbgllafafaaQue
import Derived.Test.YteabdbgllafafaaNum
import Derived.StillTailTactics
namespace Go.Proofs.Yteabdbgllafafaa
open Go.RowKit

abbrev tI : TypeId := 3
theorem int_lit (w : World) (v : Int) (cap : Nat) : shI.At (w.alloc (.cells #[.int .i64 v] 3)) (some ⟨w.heap.size, 0, none⟩) cap [v] := Shape.At.lit (S := shI) [v] (heap_alloc_new w _)
theorem lit_own (w : World) (v : Int) : (w.alloc (.cells #[.int .i64 v] 3)).ownsRow w.heap.size 3 1 (.slice (some ⟨w.heap.size, 0, none⟩) 1 1) 1 (shI.flat [v]) :=
  ⟨rfl, Or.inr ⟨w.heap.size, 1, _, rfl, Nat.le_refl _, heap_alloc_new w _, Nat.le_refl _, by decide, rfl, rfl⟩⟩
/-- What SWay answers. -/
def swayV (h : Int) (l : List Int) : Int := if okL l ∧ 0 ≤ h ∧ h ≤ 1099511627776 then wayS h l else -1
theorem way_self (h : Int) (l : List Int) : wayS h (h :: l) = wayS h l := by
  have : dstS h h = 0 := by unfold dstS; split <;> omega
  simp [wayS, this]
set_option maxHeartbeats 2000000 in
set_option maxRecDepth 100000 in
theorem sway_W {ad : Option Addr} {cap n : Nat} {l : List Int} (head : Int) (w : World) (HA : Hid (shI.At w ad cap l)) (hn : Hid (l.length = n)) (v : Int) (hv : Hid (swayV head l = v)) :
    Calls Try.prog 13 #[.int .i64 head, .slice ad n cap] w fun e w' => e = .returned (.int .i64 v) ∧ Below w.heap.size w w' := by
  obtain ⟨i0, hi, hz0, hz1, hz2⟩ := info_parts info_int
  by_cases h4 : n ≤ 400
  · have h4' : decide ((n : Int) > 400) = false := decide_eq_false (by omega)
    have B1 := Lib.hid (below_alloc w (.cells #[.int .i64 head] 3))
    have O1 := Lib.hid (lit_own w head)
    have A1 := Lib.hid (HA.out.step B1.out)
    have S1 := B1.out.size
    go_enter Try.func13, Try.ntmps13
    go_wp2_with (first
      | (at_builtin; refine wpList_append_n shI rfl _ _ 22 rfl w.heap.size 3 i0 _ 8 Try.underlying22 hi hz0 hz1 hz2 rfl (.slice (some ⟨w.heap.size, 0, none⟩) 1 1) 1 [head] l (Lib.hid rfl) rfl O1.out ad n cap rfl hn A1.out (by unfold maxLen; omega) (by omega) S1 ?_; intro ra rc w2 own2 grow2 _; have B2 := Lib.hid (B1.out.grown grow2 B1.out.size (fun k hk => (own_lt O1.out hk).1)); have R2 := Lib.hid (Shape.At.own (S := shI) (l := [head] ++ l) own2 (by simp [hn.out]; omega)); clear own2 grow2)
      | fail)
    obtain ⟨L, hL⟩ : ∃ L, [head] ++ l = L := ⟨_, rfl⟩
    rw [hL] at R2
    have HL := Lib.hid hL
    have HLn : Hid (L.length = 1 + n) := Lib.hid (by rw [← hL, List.length_append, hn.out]; rfl)
    obtain ⟨N, hN⟩ : ∃ N, 1 + n = N := ⟨_, rfl⟩
    have hNi : (1 : Int) + (n : Int) = (N : Int) := by omega
    rw [hN] at HLn ⊢
    try rw [hNi]
    have hN4 : N ≤ 401 := by omega
    clear hL O1 A1 S1 B1 hN
    go_loopw [0, 5, 16] (fun hd sm iv wr => ∃ i : Nat, i ≤ N ∧ iv = .int .i64 i ∧ sm = .int .i64 (wayS head (L.take i)) ∧ hd = .int .i64 (endS head (L.take i)) ∧ Hid (∀ x ∈ L.take i, 0 ≤ x ∧ x ≤ 1099511627776) ∧ wr = w2) (fun _ _ iv _ => N - (intOf iv).toNat)
    case atStart => exact ⟨0, Nat.zero_le _, rfl, rfl, rfl, Lib.hid (fun x hx => by simp at hx), rfl⟩
    case round =>
      obtain ⟨i, hiN, rfl, rfl, rfl, HALL, rfl⟩ := hrel
      by_cases hlt : i < N
      · obtain ⟨b, hb⟩ : ∃ b, L[i]? = some b := ⟨L[i]'(by rw [HLn.out]; exact hlt), List.getElem?_eq_getElem _⟩
        obtain ⟨hw1, hw2⟩ := way_next (h := head) hb
        have HNX := Lib.hid hw1
        have HND := Lib.hid hw2
        have HB := Lib.hid hb
        obtain ⟨bb, off, rfl, hbl, c0⟩ := at_int R2.out hb
        have HTK : Hid (L.take (i + 1) = L.take i ++ [b]) := Lib.hid (by rw [List.take_add_one, hb]; rfl)
        by_cases hr : 0 ≤ b ∧ b ≤ 1099511627776
        · obtain ⟨hr0, hr1⟩ := hr
          have hb0 : decide (b < 0) = false := decide_eq_false (by omega)
          have hb1 : decide (b > 1099511627776) = false := decide_eq_false (by omega)
          have hbd : 0 ≤ wayS head (L.take i) ∧ wayS head (L.take i) ≤ 440904162738176 ∧ 0 ≤ endS head (L.take i) ∧ endS head (L.take i) ≤ 1099511627776 := by
            by_cases h0 : i = 0
            · have e0 : L.take i = [] := by rw [h0]; rfl
              have e1 : b = head := by rw [h0, ← HL.out] at hb; simpa using hb.symm
              rw [e0]
              simp only [wayS, endS]
              omega
            · have hne : ¬ L.take i = [] := fun e => by have := congrArg List.length e; rw [List.length_take, HLn.out] at this; simp at this; omega
              have hh : head ∈ L.take i := by
                rw [← HL.out]
                obtain ⟨k, rfl⟩ : ∃ k, i = k + 1 := ⟨i - 1, by omega⟩
                simp
              have h1 := HALL.out head hh
              have h2 := way_le h1.1 h1.2 HALL.out
              have h3 := way_pos (L.take i) head
              have h4 := HALL.out _ (end_mem (h := head) hne)
              rw [List.length_take, HLn.out] at h2
              refine ⟨h3, ?_, h4.1, h4.2⟩
              have h5 : ((min i N : Nat) : Int) * 1099511627776 ≤ 401 * 1099511627776 := Int.mul_le_mul_of_nonneg_right (by omega) (by omega)
              omega
          have HALL2 : Hid (∀ x ∈ L.take (i + 1), 0 ≤ x ∧ x ≤ 1099511627776) := Lib.hid (fun x hx => by
            rw [HTK.out] at hx
            rcases List.mem_append.1 hx with hx | hx
            · exact HALL.out x hx
            · rw [List.mem_singleton] at hx; rw [hx]; exact ⟨hr0, hr1⟩)
          obtain ⟨sm, hsm⟩ : ∃ sm, wayS head (L.take i) = sm := ⟨_, rfl⟩
          obtain ⟨hd, hhd⟩ : ∃ hd, endS head (L.take i) = hd := ⟨_, rfl⟩
          rw [hsm, hhd] at hbd HNX
          rw [hsm, hhd]
          obtain ⟨k1, k2, k3, k4⟩ := hbd
          clear hw1 hw2 hb hsm hhd
          by_cases hg : b > hd
          · have hgd : decide (b > hd) = true := decide_eq_true hg
            have x1 : IntKind.i64.wrap (b - hd) = b - hd := by rw [IntKind.wrap_i64]; omega
            have x2 : IntKind.i64.wrap (sm + (b - hd)) = sm + (b - hd) := by rw [IntKind.wrap_i64]; omega
            have HD : Hid (dstS hd b = b - hd) := Lib.hid (by unfold dstS; rw [if_pos (by omega)])
            go_wp2_with fail
            go_roundw
            case rel => exact ⟨i + 1, by omega, by go_num, by rw [HNX.out, HD.out], by rw [HND.out], HALL2, by trivial⟩
            case measure => simp [intOf]; omega
          · have hgd : decide (b > hd) = false := decide_eq_false hg
            have x1 : IntKind.i64.wrap (hd - b) = hd - b := by rw [IntKind.wrap_i64]; omega
            have x2 : IntKind.i64.wrap (sm + (hd - b)) = sm + (hd - b) := by rw [IntKind.wrap_i64]; omega
            have HD : Hid (dstS hd b = hd - b) := Lib.hid (by unfold dstS; rw [if_neg (by omega)])
            go_wp2_with fail
            go_roundw
            case rel => exact ⟨i + 1, by omega, by go_num, by rw [HNX.out, HD.out], by rw [HND.out], HALL2, by trivial⟩
            case measure => simp [intOf]; omega
        · obtain rfl : v = -1 := by
            rw [← hv.out]
            unfold swayV
            refine if_neg (fun ⟨q1, q2, q3⟩ => hr ?_)
            have hm := List.mem_of_getElem? hb
            rw [← HL.out] at hm
            rcases List.mem_append.1 hm with hm | hm
            · rw [List.mem_singleton] at hm; rw [hm]; exact ⟨q2, q3⟩
            · exact q1.2 b hm
          clear hw1 hw2 hb
          by_cases hb0 : b < 0
          · have hb0d : decide (b < 0) = true := decide_eq_true hb0
            clear hr
            go_wp2_with fail
            go_ret
            exact ⟨rfl, B2.out⟩
          · have hb0d : decide (b < 0) = false := decide_eq_false hb0
            have hb1 : decide (b > 1099511627776) = true := decide_eq_true (by omega)
            clear hr
            go_wp2_with fail
            go_ret
            exact ⟨rfl, B2.out⟩
      · have hiN2 : L.take i = L := by rw [show i = N by omega, ← HLn.out, List.take_length]
        have hvv : wayS head L = v := by
          rw [← hv.out, ← HL.out]
          unfold swayV
          rw [hiN2] at HALL
          rw [if_pos ⟨⟨by rw [hn.out]; exact h4, fun x hx => HALL.out x (by rw [← HL.out]; exact List.mem_append_right _ hx)⟩, HALL.out head (by rw [← HL.out]; simp)⟩]
          exact way_self head l
        rw [hiN2, hvv]
        clear hiN2 hvv
        go_wp2_with fail
        go_ret
        exact ⟨rfl, B2.out⟩
  · have h4' : decide ((n : Int) > 400) = true := decide_eq_true (by omega)
    obtain rfl : v = -1 := by
      rw [← hv.out]
      unfold swayV
      exact if_neg (fun q => h4 (by rw [← hn.out]; exact q.1.1))
    go_enter Try.func13, Try.ntmps13
    go_wp2_with fail
    go_ret
    exact ⟨rfl, Below.refl _ _⟩
/-- Two rows of numbers of the call's own, apart. -/
structure Tw (w wr : World) (uv : Value) (nu : Nat) (us : List Int) (dv : Value) (nd : Nat) (ds : List Int) : Prop where
  b : Below w.heap.size w wr
  u : wr.ownsRow w.heap.size 3 1 uv nu (shI.flat us)
  ul : us.length = nu
  d : wr.ownsRow w.heap.size 3 1 dv nd (shI.flat ds)
  dl : ds.length = nd
  ap : ∀ x, uv.ownBlock = some x → ¬ dv.ownBlock = some x
section
variable {w wr wy : World} {uv dv uv' dv' : Value} {nu nd nu' nd' : Nat} {us ds us' ds' : List Int}
theorem Tw.step (h : Tw w wr uv nu us dv nd ds) (hb : Below wr.heap.size wr wy) : Tw w wy uv nu us dv nd ds := ⟨pstep h.b hb, own_step h.u hb, h.ul, own_step h.d hb, h.dl, h.ap⟩
theorem Tw.growU (h : Tw w wr uv nu us dv nd ds) (hg : wr.grownBy wy uv.ownBlock) (hq : wy.ownsRow w.heap.size 3 1 uv' nu' (shI.flat us')) (hl : us'.length = nu') (hf : ∀ x, uv'.ownBlock = some x → uv.ownBlock = some x ∨ wr.heap.size ≤ x) : Tw w wy uv' nu' us' dv nd ds :=
  ⟨h.b.grown hg h.b.size (fun k hk => (own_lt h.u hk).1), hq, hl, own_kept h.d hg (fun x hx e => h.ap x e.symm hx), h.dl, fun x hx hx' => by
    rcases hf x hx with e | e
    · exact h.ap x e hx'
    · have := (own_lt h.d hx').2; omega⟩
theorem Tw.growD (h : Tw w wr uv nu us dv nd ds) (hg : wr.grownBy wy dv.ownBlock) (hq : wy.ownsRow w.heap.size 3 1 dv' nd' (shI.flat ds')) (hl : ds'.length = nd') (hf : ∀ x, dv'.ownBlock = some x → dv.ownBlock = some x ∨ wr.heap.size ≤ x) : Tw w wy uv nu us dv' nd' ds' :=
  ⟨h.b.grown hg h.b.size (fun k hk => (own_lt h.d hk).1), own_kept h.u hg (fun x hx e => h.ap x hx e.symm), h.ul, hq, hl, fun x hx hx' => by
    rcases hf x hx' with e | e
    · exact h.ap x hx e
    · have := (own_lt h.u hx).2; omega⟩
end
/-- What SParts answers. -/
def PartsOut (w : World) (nu nd : Nat) (us ds : List Int) (e : Ending) (w' : World) : Prop :=
  ∃ ua uc da dc, e = .returned (.tuple #[.slice ua nu uc, .slice da nd dc]) ∧ Tw w w' (.slice ua nu uc) nu us (.slice da nd dc) nd ds
set_option maxHeartbeats 2000000 in
set_option maxRecDepth 100000 in
theorem sparts_W {ad : Option Addr} {cap n : Nat} {l : List Int} (head : Int) (w : World) (HA : Hid (shI.At w ad cap l)) (hn : Hid (l.length = n)) (hnb : n ≤ 8796093022208) (nu nd : Nat) (hu : Hid ((upL head l).length = nu)) (hd : Hid ((dnL head l).length = nd)) :
    Calls Try.prog 14 #[.int .i64 head, .slice ad n cap] w (PartsOut w nu nd (upR head l) (dnR head l)) := by
  obtain ⟨i0, hi, hz0, hz1, hz2⟩ := info_parts info_int
  have H0 : Hid (Tw w w (.slice none 0 0) 0 [] (.slice none 0 0) 0 []) := Lib.hid ⟨Below.refl _ _, World.ownsRow_nil _ _ _ _, rfl, World.ownsRow_nil _ _ _ _, rfl, fun x hx => by cases hx⟩
  go_enter Try.func14, Try.ntmps14
  go_wp2_with fail
  go_loopw [6, 7, 12] (fun uv dv iv wr => ∃ (i a b : Nat) (ua : Option Addr) (uc : Nat) (da : Option Addr) (dc : Nat), i ≤ n ∧ iv = .int .i64 i ∧ uv = .slice ua a uc ∧ dv = .slice da b dc ∧ Hid (Tw w wr (.slice ua a uc) a (upL head (l.take i)) (.slice da b dc) b (dnL head (l.take i)))) (fun _ _ iv _ => n - (intOf iv).toNat)
  case atStart => exact ⟨0, 0, 0, none, 0, none, 0, Nat.zero_le _, rfl, rfl, rfl, H0⟩
  case round =>
    clear H0
    obtain ⟨i, a, b, ua, uc, da, dc, hin, rfl, rfl, rfl, HT⟩ := hrel
    by_cases hlt : i < n
    · obtain ⟨x, hx⟩ : ∃ x, l[i]? = some x := ⟨l[i]'(by rw [hn.out]; exact hlt), List.getElem?_eq_getElem _⟩
      have HUN := Lib.hid (up_next (h := head) hx)
      have HDN := Lib.hid (dn_next (h := head) hx)
      obtain ⟨bb, off, rfl, hb, e0⟩ := at_int HA.out hx
      have c0 := (HT.out.b.cell (p := ⟨bb, off + i, none⟩) hb).trans e0
      have hbr : bb < wr.heap.size := Nat.lt_of_lt_of_le hb HT.out.b.size
      have hai : a ≤ i := by rw [← HT.out.ul]; exact Nat.le_trans (List.length_filter_le _ _) (by rw [List.length_take]; omega)
      have hbi : b ≤ i := by rw [← HT.out.dl]; exact Nat.le_trans (List.length_filter_le _ _) (by rw [List.length_take]; omega)
      obtain ⟨uk, huk⟩ : ∃ uk, upL head (l.take i) = uk := ⟨_, rfl⟩
      obtain ⟨dk, hdk⟩ : ∃ dk, dnL head (l.take i) = dk := ⟨_, rfl⟩
      rw [huk, hdk] at HT
      rw [huk] at HUN
      rw [hdk] at HDN
      have XA := Lib.hid (HT.out.step (below_alloc wr (.cells #[.int .i64 x] 3)))
      have NA := Lib.hid (int_lit wr x 1)
      have hbs := XA.out.b.size
      have HUL := Lib.hid HT.out.ul
      have HDL := Lib.hid HT.out.dl
      clear hx huk hdk e0
      by_cases hg : head ≤ x
      · have hgd : decide (x ≥ head) = true := decide_eq_true hg
        rw [if_pos hg] at HUN HDN
        clear hg
        go_wp2_with (first
          | (at_builtin; refine wpList_append_n shI rfl _ _ 22 rfl w.heap.size 3 i0 _ 8 Try.underlying22 hi hz0 hz1 hz2 rfl (.slice ua a uc) a uk [x] HUL rfl XA.out.u (some ⟨wr.heap.size, 0, none⟩) 1 1 rfl (Lib.hid rfl) NA.out (by unfold maxLen; omega) (by omega) hbs ?_; intro ra rc w4 own4 grow4 new4; have L4 := Lib.hid (XA.out.growU grow4 own4 (by rw [List.length_append, HUL.out]; rfl) (fun g hg => (new4 g hg).imp id (fun e => by rw [e]; exact Nat.le_refl _))); clear own4 grow4 new4)
          | fail)
        go_roundw
        case rel => exact ⟨i + 1, a + 1, b, ra, rc, da, dc, by omega, by go_num, rfl, rfl, Lib.hid (by rw [HUN.out, HDN.out, List.append_nil]; exact L4.out)⟩
        case measure => simp [intOf]; omega
      · have hgd : decide (x ≥ head) = false := decide_eq_false hg
        rw [if_neg hg] at HUN HDN
        clear hg
        go_wp2_with (first
          | (at_builtin; refine wpList_append_n shI rfl _ _ 22 rfl w.heap.size 3 i0 _ 8 Try.underlying22 hi hz0 hz1 hz2 rfl (.slice da b dc) b dk [x] HDL rfl XA.out.d (some ⟨wr.heap.size, 0, none⟩) 1 1 rfl (Lib.hid rfl) NA.out (by unfold maxLen; omega) (by omega) hbs ?_; intro ra rc w4 own4 grow4 new4; have L4 := Lib.hid (XA.out.growD grow4 own4 (by rw [List.length_append, HDL.out]; rfl) (fun g hg => (new4 g hg).imp id (fun e => by rw [e]; exact Nat.le_refl _))); clear own4 grow4 new4)
          | fail)
        go_roundw
        case rel => exact ⟨i + 1, a, b + 1, ua, uc, ra, rc, by omega, by go_num, rfl, rfl, Lib.hid (by rw [HUN.out, HDN.out, List.append_nil]; exact L4.out)⟩
        case measure => simp [intOf]; omega
    · have e : l.take i = l := by rw [show i = n by omega, ← hn.out, List.take_length]
      rw [e] at HT
      obtain rfl : nu = a := by rw [← hu.out, HT.out.ul]
      obtain rfl : nd = b := by rw [← hd.out, HT.out.dl]
      have hau : nu < 4611686018427387904 := by
        have h1 := List.length_filter_le (fun b => decide (head ≤ b)) l
        have h2 := hu.out
        unfold upL at h2
        rw [h2, hn.out] at h1
        omega
      have hbd : nd < 4611686018427387904 := by
        have h1 := List.length_filter_le (fun b => decide (b < head)) l
        have h2 := hd.out
        unfold dnL at h2
        rw [h2, hn.out] at h1
        omega
      have HU := Lib.hid HT.out.u
      clear e
      go_wp2_with (first
        | (go_at_call 37; (with_reducible refine (sortI_row _ HU hu hau).mono ?_); rintro e w5 ⟨rfl, o5, g5⟩; have T5 := Lib.hid (HT.out.growU g5 o5 (by rw [sortI_len]; exact hu.out) (fun x hx => Or.inl hx)); have HD5 := Lib.hid T5.out.d; clear o5 g5)
        | (go_at_call 37; (with_reducible refine (sortI_row _ HD5 hd hbd).mono ?_); rintro e w6 ⟨rfl, o6, g6⟩; have T6 := Lib.hid (T5.out.growD g6 o6 (by rw [sortI_len]; exact hd.out) (fun x hx => Or.inl hx)); clear o6 g6)
        | fail)
      go_ret2
      exact ⟨_, _, _, _, rfl, T6.out⟩
end Go.Proofs.Yteabdbgllafafaa
