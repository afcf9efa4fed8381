/- The walks of NestQuiet and NestEven. -/
import Derived.Test.YteeejkcehajokaaNesO
namespace Go.Proofs.Yteeejkcehajokaa
open Go.RowKit

theorem depth_run {es : List Int} {on : Bool} {l : List FrT} {ks : List Int} {k : Nat} {K : Int} (hk : ks[k]? = some K) (hst : runN (ks.take k) = (es, ⟨on, l⟩)) : (errN true ⟨on, l⟩ K = 0 → ((runN (ks.take (k + 1))).2.kept.length : Int) = if K = 1 ∨ K = 3 then (l.length : Int) + 1 else (l.length : Int) - 1) ∧ (¬ errN true ⟨on, l⟩ K = 0 → (runN (ks.take (k + 1))).2.kept.length = l.length) := by
  rw [runN_take hk, hst]
  refine ⟨fun e => ?_, fun e => ?_⟩
  · unfold stepRN
    simp only [if_pos e]
    exact depth_step e
  · unfold stepRN
    simp only [if_neg e]
theorem es_at {ks : List Int} {k : Nat} {K : Int} (hk : ks[k]? = some K) : (runN ks).1[k]? = some (errN true (runN (ks.take k)).2 K) := by
  have : ∀ (m : List Int) (r : List Int × CoreT), ∃ t, (m.foldl stepRN r).1 = r.1 ++ t := by
    intro m
    induction m with
    | nil => intro r; exact ⟨[], by simp⟩
    | cons a m ih =>
      intro r
      obtain ⟨t, ht⟩ := ih (stepRN r a)
      exact ⟨errN true r.2 a :: t, by rw [List.foldl_cons, ht]; simp [stepRN]⟩
  have hlt := (List.getElem?_eq_some_iff.1 hk).1
  obtain ⟨t, ht⟩ := this (ks.drop (k + 1)) (runN (ks.take (k + 1)))
  have e : runN ks = (ks.drop (k + 1)).foldl stepRN (runN (ks.take (k + 1))) := by
    unfold runN
    rw [← List.foldl_append, List.take_append_drop]
  have hl := runN_len (ks.take k)
  rw [List.length_take, Nat.min_eq_left (by omega)] at hl
  rw [e, ht, runN_take hk]
  unfold stepRN
  simp only [List.append_assoc]
  rw [List.getElem?_append_right (by omega), hl, Nat.sub_self]
  rfl
set_option maxHeartbeats 1000000 in
set_option maxRecDepth 100000 in
theorem quiet_N {ad : Option Addr} {cap n : Nat} {ks : List Int} (w : World) (HA : Hid (shI.At w ad cap ks)) (hm : Hid (ks.length = n)) (hn : n ≤ 17592186044416) :
    Calls Try.prog 5 #[.slice ad n cap] w fun e w' => e = .returned (.bool true) ∧ Below w.heap.size w w' := by
  obtain ⟨es, hes⟩ : ∃ es, (runN ks).1 = es := ⟨_, rfl⟩
  obtain ⟨on, hon⟩ : ∃ on, (runN ks).2.on = on := ⟨_, rfl⟩
  obtain ⟨l, hl⟩ : ∃ l, (runN ks).2.kept = l := ⟨_, rfl⟩
  obtain ⟨m, hml⟩ : ∃ m, l.length = m := ⟨_, rfl⟩
  have HR : Hid (runN ks = (es, ⟨on, l⟩)) := Lib.hid (by rw [← hes, ← hon, ← hl])
  have HM := Lib.hid hml
  have HES := Lib.hid hes
  have HEL : Hid (es.length = n) := Lib.hid (by rw [← hes, runN_len, hm.out])
  clear hes hon hl hml
  go_enter Try.func5, Try.ntmps5
  go_wp2_with (first
    | (go_at_call 15; (with_reducible refine (alive7_N _).mono ?_); rintro e w1 ⟨rfl, hb⟩; have B1 := Lib.hid hb; have HA1 := Lib.hid (HA.out.step hb); clear hb)
    | (go_at_call 9; (with_reducible refine (play_N _ HA1 hm hn es on l m HR HM).mono ?_); rintro e w2 ⟨ea, ec, ra, rc, rfl, hE, hF, hb⟩; have B2 := Lib.hid ((pstep B1.out hb).trans ((below_alloc w2 (.cells #[.bool on, .slice ra m rc] 24)).mono ((pstep B1.out hb).size))); have HA2 := Lib.hid ((HA1.out.step hb).step (below_alloc w2 (.cells #[.bool on, .slice ra m rc] 24))); have HE2 := Lib.hid (hE.step (below_alloc w2 (.cells #[.bool on, .slice ra m rc] 24))); clear hb hE hF)
    | fail)
  go_loopw [5, 22] (fun d i wr => ∃ k : Nat, k ≤ n ∧ i = .int .i64 k ∧ (∃ D : Int, d = .int .i64 D ∧ Hid (((runN (ks.take k)).2.kept.length : Int) = D)) ∧ wr = w2.alloc (.cells #[.bool on, .slice ra m rc] 24)) (fun _ i _ => n - (intOf i).toNat)
  case atStart => exact ⟨0, Nat.zero_le _, rfl, ⟨0, rfl, Lib.hid rfl⟩, rfl⟩
  case round =>
    obtain ⟨k, hk, rfl, ⟨D, rfl, HD⟩, rfl⟩ := hrel
    by_cases hkl : k < n
    · obtain ⟨K, hK⟩ : ∃ o, ks[k]? = some o := ⟨ks[k]'(by rw [hm.out]; exact hkl), List.getElem?_eq_getElem _⟩
      have hx := es_at hK
      rw [HES.out] at hx
      have hev := ev_run (ks.take k)
      obtain ⟨st, hst⟩ : ∃ st, runN (ks.take k) = st := ⟨_, rfl⟩
      have hdr : ∀ es on l, st = (es, ⟨on, l⟩) → _ := fun es on l e => depth_run hK (hst.trans e)
      rw [hst] at HD hx hev
      obtain ⟨es1, ⟨on1, l1⟩⟩ := st
      have hdr := hdr _ _ _ rfl
      simp only at HD hx hev
      have h400 := hev.rt.len
      simp only at h400
      obtain ⟨x, hxx⟩ : ∃ x, errN true ⟨on1, l1⟩ K = x := ⟨_, rfl⟩
      rw [hxx] at hx hdr
      obtain ⟨b, off, rfl, hb, c0⟩ := at_int HA2.out hK
      obtain ⟨b2, off2, rfl, hb2, d0⟩ := at_int HE2.out hx
      have hDl := HD.out
      have HX := Lib.hid hxx
      have HDR := Lib.hid hdr
      have HEV := Lib.hid hev
      clear hst hdr hxx hev hK hx
      by_cases hx0 : x = 0
      · subst hx0
        have hd := HDR.out.1 rfl
        by_cases k3 : K = 3
        · subst k3
          rw [if_pos (Or.inr rfl)] at hd
          have h0 : l1 = [] := enter_empty HEV.out.rt HX.out
          have hD0 : D = 0 := by rw [← hDl, h0]; rfl
          subst hD0
          have HDN := Lib.hid hd
          have HL0 := Lib.hid h0
          clear hd h0 hDl
          go_wp2_with fail
          go_roundw
          case rel => exact ⟨k + 1, by omega, by go_num, ⟨1, by go_num, Lib.hid (by rw [HDN.out, HL0.out]; rfl)⟩, trivial⟩
          case measure => simp [intOf]; omega
        by_cases k1 : K = 1
        · subst k1
          rw [if_pos (Or.inl rfl)] at hd
          have HDN := Lib.hid hd
          have HDL := Lib.hid hDl
          have hr : 0 ≤ D ∧ D ≤ 400 := by omega
          clear hd hDl
          go_wp2_with fail
          go_roundw
          case rel => exact ⟨k + 1, by omega, by go_num, ⟨D + 1, by go_num, Lib.hid (by rw [HDN.out, HDL.out])⟩, trivial⟩
          case measure => simp [intOf]; omega
        · rw [if_neg (by omega)] at hd
          have HDN := Lib.hid hd
          have HDL := Lib.hid hDl
          have hr : 0 ≤ D ∧ D ≤ 400 := by omega
          have q1 : (K == 1) = false := by simpa using k1
          have q3 : (K == 3) = false := by simpa using k3
          clear hd hDl
          go_wp2_with fail
          go_roundw
          case rel => exact ⟨k + 1, by omega, by go_num, ⟨D - 1, by go_num, Lib.hid (by rw [HDN.out, HDL.out])⟩, trivial⟩
          case measure => simp [intOf]; omega
      · have hd := HDR.out.2 hx0
        have HDN := Lib.hid hd
        have HDL := Lib.hid hDl
        have hx1 : (x == 0) = false := by simpa using hx0
        have hx2 : (x != 0) = true := by simpa using hx0
        clear hd hDl
        go_wp2_with fail
        go_roundw
        case rel => exact ⟨k + 1, by omega, by go_num, ⟨D, rfl, Lib.hid (by rw [HDN.out, HDL.out])⟩, trivial⟩
        case measure => simp [intOf]; omega
    · obtain rfl : k = n := by omega
      have hD0 : 0 ≤ D := by have := HD.out; omega
      go_wp2_with fail
      go_ret
      exact ⟨by simp, B2.out⟩
theorem nestQuiet_walk (v : Value) (w : World) (g : ArgKs w v) (u : lenOf v ≤ 17592186044416) : Calls Try.prog 5 #[v] w fun e w' => e = .returned (.bool true) ∧ Below w.heap.size w w' := by
  obtain ⟨ad, cap, l, rfl, hat, _⟩ := g
  exact quiet_N w (Lib.hid hat) (Lib.hid rfl) u
end Go.Proofs.Yteeejkcehajokaa
