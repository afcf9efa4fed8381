/- The walk of NestEven. -/
import Derived.Test.YteeejkcehajokaaNQuiet
namespace Go.Proofs.Yteeejkcehajokaa
open Go.RowKit

set_option maxHeartbeats 1000000 in
set_option maxRecDepth 100000 in
theorem even_N {ad : Option Addr} {cap n : Nat} {ks : List Int} (w : World) (HA : Hid (shI.At w ad cap ks)) (hm : Hid (ks.length = n)) (hn : n ≤ 17592186044416) :
    Calls Try.prog 6 #[.slice ad n cap] w fun e w' => e = .returned (.bool true) ∧ Below w.heap.size w w' := by
  obtain ⟨es, hes⟩ : ∃ es, (runN ks).1 = es := ⟨_, rfl⟩
  obtain ⟨on, hon⟩ : ∃ on, (runN ks).2.on = on := ⟨_, rfl⟩
  obtain ⟨l, hl⟩ : ∃ l, (runN ks).2.kept = l := ⟨_, rfl⟩
  obtain ⟨m, hml⟩ : ∃ m, l.length = m := ⟨_, rfl⟩
  have HR : Hid (runN ks = (es, ⟨on, l⟩)) := Lib.hid (by rw [← hes, ← hon, ← hl])
  have HM := Lib.hid hml
  have HES := Lib.hid hes
  have HEL : Hid (es.length = n) := Lib.hid (by rw [← hes, runN_len, hm.out])
  have HL := Lib.hid hl
  have HON := Lib.hid hon
  clear hes hon hl hml
  go_enter Try.func6, Try.ntmps6
  go_wp2_with (first
    | (go_at_call 15; (with_reducible refine (alive7_N _).mono ?_); rintro e w1 ⟨rfl, hb⟩; have B1 := Lib.hid hb; have HA1 := Lib.hid (HA.out.step hb); clear hb)
    | (go_at_call 9; (with_reducible refine (play_N _ HA1 hm hn es on l m HR HM).mono ?_); rintro e w2 ⟨ea, ec, ra, rc, rfl, hE, hF, hb⟩; have B2 := Lib.hid ((pstep B1.out hb).trans ((below_alloc w2 (.cells #[.bool on, .slice ra m rc] 24)).mono ((pstep B1.out hb).size))); have HA2 := Lib.hid ((HA1.out.step hb).step (below_alloc w2 (.cells #[.bool on, .slice ra m rc] 24))); have HE2 := Lib.hid (hE.step (below_alloc w2 (.cells #[.bool on, .slice ra m rc] 24))); have HF2 := Lib.hid (hF.step (below_alloc w2 (.cells #[.bool on, .slice ra m rc] 24))); clear hb hE hF)
    | fail)
  go_loopw [5, 17] (fun d i wr => ∃ k : Nat, k ≤ n ∧ i = .int .i64 k ∧ (∃ D : Int, d = .int .i64 D ∧ Hid (((runN (ks.take k)).2.kept.length : Int) = D)) ∧ wr = w2.alloc (.cells #[.bool on, .slice ra m rc] 24)) (fun _ i _ => n - (intOf i).toNat)
  case atStart => exact ⟨0, Nat.zero_le _, rfl, ⟨0, rfl, Lib.hid rfl⟩, rfl⟩
  case round =>
    obtain ⟨k, hk, rfl, ⟨D, rfl, HD⟩, rfl⟩ := hrel
    by_cases hkl : k < n
    · obtain ⟨K, hK⟩ : ∃ o, ks[k]? = some o := ⟨ks[k]'(by rw [hm.out]; exact hkl), List.getElem?_eq_getElem _⟩
      have hx := es_at hK
      rw [HES.out] at hx
      have hev := ev_run (ks.take k)
      obtain ⟨st, hst⟩ : ∃ st, runN (ks.take k) = st := ⟨_, rfl⟩
      have hdr : ∀ es on l, st = (es, ⟨on, l⟩) → _ := fun es on l e => depth_run hK (hst.trans e)
      rw [hst] at HD hx hev
      obtain ⟨es1, ⟨on1, l1⟩⟩ := st
      have hdr := hdr _ _ _ rfl
      simp only at HD hx hev
      have h400 := hev.rt.len
      simp only at h400
      obtain ⟨x, hxx⟩ : ∃ x, errN true ⟨on1, l1⟩ K = x := ⟨_, rfl⟩
      rw [hxx] at hx hdr
      obtain ⟨b, off, rfl, hb, c0⟩ := at_int HA2.out hK
      obtain ⟨b2, off2, rfl, hb2, d0⟩ := at_int HE2.out hx
      have hDl := HD.out
      have HDR := Lib.hid hdr
      clear hst hdr hxx hev hK hx
      by_cases hx0 : x = 0
      · subst hx0
        have hd := HDR.out.1 rfl
        by_cases k3 : K = 3
        · subst k3
          rw [if_pos (Or.inr rfl)] at hd
          have HDN := Lib.hid hd
          have HDL := Lib.hid hDl
          have hr : 0 ≤ D ∧ D ≤ 400 := by omega
          clear hd hDl
          go_wp2_with fail
          go_roundw
          case rel => exact ⟨k + 1, by omega, by go_num, ⟨D + 1, by go_num, Lib.hid (by rw [HDN.out, HDL.out])⟩, trivial⟩
          case measure => simp [intOf]; omega
        by_cases k1 : K = 1
        · subst k1
          rw [if_pos (Or.inl rfl)] at hd
          have HDN := Lib.hid hd
          have HDL := Lib.hid hDl
          have hr : 0 ≤ D ∧ D ≤ 400 := by omega
          clear hd hDl
          go_wp2_with fail
          go_roundw
          case rel => exact ⟨k + 1, by omega, by go_num, ⟨D + 1, by go_num, Lib.hid (by rw [HDN.out, HDL.out])⟩, trivial⟩
          case measure => simp [intOf]; omega
        · rw [if_neg (by omega)] at hd
          have HDN := Lib.hid hd
          have HDL := Lib.hid hDl
          have hr : 0 ≤ D ∧ D ≤ 400 := by omega
          have q1 : (K == 1) = false := by simpa using k1
          have q3 : (K == 3) = false := by simpa using k3
          clear hd hDl
          go_wp2_with fail
          go_roundw
          case rel => exact ⟨k + 1, by omega, by go_num, ⟨D - 1, by go_num, Lib.hid (by rw [HDN.out, HDL.out])⟩, trivial⟩
          case measure => simp [intOf]; omega
      · have hd := HDR.out.2 hx0
        have HDN := Lib.hid hd
        have HDL := Lib.hid hDl
        have hx1 : (x == 0) = false := by simpa using hx0
        clear hd hDl
        go_wp2_with fail
        go_roundw
        case rel => exact ⟨k + 1, by omega, by go_num, ⟨D, rfl, Lib.hid (by rw [HDN.out, HDL.out])⟩, trivial⟩
        case measure => simp [intOf]; omega
    · obtain rfl : k = n := by omega
      have hD0 : D = (m : Int) := by
        rw [← HD.out, ← hm.out, List.take_length, HL.out, HM.out]
      subst hD0
      have hev := ev_run ks
      have hRT : RtN ⟨on, l⟩ := by have := hev.rt; rw [HR.out] at this; exact this
      have hlen : m ≤ 400 := by have := hRT.len; simp only [HM.out] at this; exact this
      have HRT := Lib.hid hRT
      have he := hev.ev
      rw [HR.out] at he
      simp only at he
      have he2 : (on = true ∧ m = 0) ∨ (on = false ∧ 0 < m) := by
        rcases he with ⟨h1, h2⟩ | ⟨h1, f, r, h2, _⟩
        · exact Or.inl ⟨h2, by rw [← HM.out, h1]; rfl⟩
        · exact Or.inr ⟨h1, by rw [← HM.out, h2]; simp⟩
      clear hev hRT he HD HL HON
      have hrr : ∀ (P : Prop) (e : Ending), RetB P e → P → e = .returned (.bool true) := fun P e h hp => retB_eq h ⟨fun _ => hp, fun _ => rfl⟩
      rcases he2 with ⟨rfl, rfl⟩ | ⟨rfl, h0⟩
      · go_wp2_with (first
          | (go_at_call 11; (with_reducible refine (right_N true _ HF2 HM (by omega)).mono ?_); rintro e w3 ⟨hr, hb⟩; have he := hrr _ _ hr HRT.out; subst he; have B3 := Lib.hid (pstep B2.out hb); clear hb hr)
          | fail)
        go_ret
        exact ⟨rfl, B3.out⟩
      · have q0 : ((m : Int) == 0) = false := by simp; omega
        go_wp2_with (first
          | (go_at_call 11; (with_reducible refine (right_N false _ HF2 HM (by omega)).mono ?_); rintro e w3 ⟨hr, hb⟩; have he := hrr _ _ hr HRT.out; subst he; have B3 := Lib.hid (pstep B2.out hb); clear hb hr)
          | fail)
        go_ret
        exact ⟨rfl, B3.out⟩
theorem nestEven_walk (v : Value) (w : World) (g : ArgKs w v) (u : lenOf v ≤ 17592186044416) : Calls Try.prog 6 #[v] w fun e w' => e = .returned (.bool true) ∧ Below w.heap.size w w' := by
  obtain ⟨ad, cap, l, rfl, hat, _⟩ := g
  exact even_N w (Lib.hid hat) (Lib.hid rfl) u
end Go.Proofs.Yteeejkcehajokaa
