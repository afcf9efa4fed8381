/- A masked line sends nothing, and masking and unmasking without events in between sends nothing new.
   Conditions: the arguments hold together at most 1048576 values. -/
import Derived.Test.YtkmjbompbkbfaaaRows
import Derived.Test.YtkmjbompbkbfaaaLMask
import Derived.Test.YtkmjbompbkbfaaaPinO
import Derived.JoinedCond
namespace Go.Proofs.Ytkmjbompbkbfaaa.lineMaskUpto
open Go.ChangeShapes Go.WideShapes Go.ChangeAt Go.RowKit
theorem bulk_pos {H : Type} (d : DataW H) : 0 < Rows.uptoBulk d := by
  cases d <;> first
    | (simp [Rows.uptoBulk]; done)
    | (rename_i l; cases l <;> simp [Rows.uptoBulk])
theorem count_le {H : Type} : ∀ l : List (DataW H), l.length ≤ Rows.uptoBulkAll l
  | [] => Nat.zero_le _
  | d :: r => by
    have h1 := bulk_pos d
    have h2 := count_le r
    rw [Rows.uptoBulkAll, List.length_cons]
    omega
theorem member_le {H : Type} {d : DataW H} : ∀ l : List (DataW H), d ∈ l → Rows.uptoBulk d ≤ Rows.uptoBulkAll l
  | x :: r, h => by
    rw [Rows.uptoBulkAll]
    by_cases e : d = x
    · rw [e]; omega
    · have := member_le r (by simpa [e] using h)
      omega
theorem slice_len {H : Type} {el sp : List (DataW H)} {l : List (DataW H)} (h : DataW.slice el sp ∈ l) (hk : Rows.uptoSmall H l = true) : el.length ≤ 1048576 := by
  have h1 := member_le l h
  have h2 := count_le el
  have h3 : Rows.uptoBulkAll l ≤ 1048576 := of_decide_eq_true hk
  have h4 : Rows.uptoBulkAll el ≤ Rows.uptoBulk (.slice el sp) := by simp only [Rows.uptoBulk]; omega
  omega

theorem contract (H : Type) (enc : TypeId × Value → H) (W : World) (base : Nat) (args : Array Value) (ds gs : List (DataW H)) (before : List MemPlace)
    (hval : ∀ (j : Nat) t v, Try.f8.params[j]? = some t → args[j]? = some v → Value.okWide Try.prog W .any base t v)
    (hW : DataW.Whole enc Try.prog Try.f8.params.toList Rows.lineMaskSpec.vars false W args.toList ds gs before) (hk : Rows.uptoSmall H (ds ++ gs) = true) :
    Calls Try.prog 8 args W fun e W' => ∃ v, e = .returned v ∧ Rows.lineMaskSpec.post enc Try.prog Try.f8 false true false false W args v W' := by
  have hW' := hW
  obtain ⟨p, q, hA0, hV, rfl, hfz, hnd⟩ := hW
  have hA : DataW.TrodAll enc Try.prog W 0 (fun _ => true) true Try.f8.params.toList args.toList ds p := hA0
  rw [Try.params8] at hA hval
  obtain ⟨v0, vs0, d0, ds0, p0, q0, hargs, rfl, rfl, h0, r0⟩ := trodAll_cons hA
  obtain ⟨v1, vs1, d1, ds1, p1, q1, rfl, rfl, rfl, h1, r1⟩ := trodAll_cons r0
  obtain ⟨v2, vs2, d2, ds2, p2, q2, rfl, rfl, rfl, h2, r2⟩ := trodAll_cons r1
  obtain ⟨v3, vs3, d3, ds3, p3, q3, rfl, rfl, rfl, h3, r3⟩ := trodAll_cons r2
  obtain ⟨rfl, rfl, rfl⟩ := trodAll_nil r3
  obtain rfl : args = #[v0, v1, v2, v3] := by cases args; simp_all
  obtain ⟨rfl, rfl⟩ := trodVars_none hV
  obtain ⟨g0, n0⟩ := arg_pins (hval 0 22 v0 rfl rfl) h0
  have u0 : lenOf v0 ≤ 1048576 := by
    rcases n0 with e | ⟨el, sp, hdt, hlen⟩
    · omega
    · rw [← hlen]
      exact slice_len (sp := sp) (by rw [← hdt]; simp) hk
  obtain ⟨g1, n1⟩ := arg_ops (hval 1 32 v1 rfl rfl) h1
  have u1 : lenOf v1 ≤ 1048576 := by
    rcases n1 with e | ⟨el, sp, hdt, hlen⟩
    · omega
    · rw [← hlen]
      exact slice_len (sp := sp) (by rw [← hdt]; simp) hk
  have cc1 := cap_of (hval 1 32 v1 rfl rfl) h1
  obtain ⟨a2, rfl, rfl, rfl, k2⟩ := open_int Try.underlying3 (hval 2 3 v2 rfl rfl) h2
  obtain ⟨a3, rfl, rfl, rfl, k3⟩ := open_int Try.underlying3 (hval 3 3 v3 rfl rfl) h3
  clear hA0
  try simp only [List.append_nil] at hW'
  refine (lineMask_walk v0 v1 a2 a3 W g0 g1 u0 u1 cc1).mono fun e W' ⟨he, hb⟩ => ?_
  subst he
  exact ⟨_, rfl, [d0, d1, .lit (.int .i64 a2), .lit (.int .i64 a3)], [], _, [], _, [], hW', trodAll_cons_mk (shut_bool Try.underlying4 _) trodAll_mk0, (trodAll_cons_mk (staysP readPins (of_decide_eq_true (by kernel_rfl)) h0 hb) (trodAll_cons_mk (staysP readPinOps (of_decide_eq_true (by kernel_rfl)) h1 hb) (trodAll_cons_mk (shut_int Try.underlying3 k2) (trodAll_cons_mk (shut_int Try.underlying3 k3) trodAll_mk0)))), rfl, hb.frame _, fun h => by cases h⟩

set_option maxRecDepth 100000 in
theorem lifted (os : Os) (started : os.Started) (H : Type) (enc : TypeId × Value → H) (F : Stop.Interp) :
    ReturnsInHanded {} Try.checked os 8 .any ((Rows.OpenSpec.upto Rows.lineMaskSpec).pre6 enc Try.prog Try.f8 Rows.lineMaskUptoRow.domain false) (((Rows.OpenSpec.upto Rows.lineMaskSpec).at F).post enc Try.prog Try.f8 false true false false) := by
  refine returnsInHanded_of_cond (C := Try.checked) (s := Rows.OpenSpec.upto Rows.lineMaskSpec) (k := Rows.uptoSmall) rfl ownP started (by kernel_rfl) Try.func8
    (OpenSpec.witness (enc := enc) (C := Try.checked) (s := Rows.OpenSpec.upto Rows.lineMaskSpec) (k := Rows.uptoSmall) rfl false ⟨#[], #[.slice none 0 0, .slice none 0 0, .int .i64 0, .int .i64 0], []⟩ 8 (by kernel_rfl) (by kernel_rfl) (by kernel_rfl)
      (x := ([.nil, .nil, .lit (.int .i64 0), .lit (.int .i64 0)], [], [])) (by kernel_rfl) rfl (by kernel_rfl)) ?_
  intro W base args ds gs before hval hW _ hk _
  exact contract H enc W base args ds gs before hval hW hk
theorem proved : Rows.LineMaskUptoSaid :=
  OpenClaim.holds_of_cond 8 Try.f8 rfl rfl rfl rfl rfl rfl rfl ⟨rfl, rfl, rfl, rfl, rfl⟩ rfl rfl rfl rfl rfl (by kernel_rfl) Try.func8 (by kernel_rfl)
    (of_decide_eq_true (by kernel_rfl)) (by unfold Func.isWrapper; first | (rw [if_pos (by decide +kernel)]; kernel_rfl) | (rw [if_neg (by decide +kernel)]; exact ⟨rfl, rfl⟩))
    (fun os started H enc _ F => lifted os started H enc F)
#print axioms proved
end Go.Proofs.Ytkmjbompbkbfaaa.lineMaskUpto
