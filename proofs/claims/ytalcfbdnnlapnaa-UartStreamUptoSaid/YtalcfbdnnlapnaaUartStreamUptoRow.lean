/- corebellkeep.UartStream answers true: the bytes read are those that came in, in their order, but for those that are counted as lost; and the bytes sent are those that were written.
   Conditions: the arguments hold together at most 1048576 values. -/
import Derived.Test.YtalcfbdnnlapnaaRows
import Derived.Test.YtalcfbdnnlapnaaUStr
import Derived.Test.YtalcfbdnnlapnaaUarO
import Derived.JoinedCond
namespace Go.Proofs.Ytalcfbdnnlapnaa.uartStreamUpto
open Go.ChangeShapes Go.WideShapes Go.ChangeAt Go.RowKit
theorem bulk_pos {H : Type} (d : DataW H) : 0 < Rows.uptoBulk d := by
  cases d <;> first
    | (simp [Rows.uptoBulk]; done)
    | (rename_i l; cases l <;> simp [Rows.uptoBulk])
theorem count_le {H : Type} : ∀ l : List (DataW H), l.length ≤ Rows.uptoBulkAll l
  | [] => Nat.zero_le _
  | d :: r => by
    have h1 := bulk_pos d
    have h2 := count_le r
    rw [Rows.uptoBulkAll, List.length_cons]
    omega
theorem member_le {H : Type} {d : DataW H} : ∀ l : List (DataW H), d ∈ l → Rows.uptoBulk d ≤ Rows.uptoBulkAll l
  | x :: r, h => by
    rw [Rows.uptoBulkAll]
    by_cases e : d = x
    · rw [e]; omega
    · have := member_le r (by simpa [e] using h)
      omega
theorem slice_len {H : Type} {el sp : List (DataW H)} {l : List (DataW H)} (h : DataW.slice el sp ∈ l) (hk : Rows.uptoSmall H l = true) : el.length ≤ 1048576 := by
  have h1 := member_le l h
  have h2 := count_le el
  have h3 : Rows.uptoBulkAll l ≤ 1048576 := of_decide_eq_true hk
  have h4 : Rows.uptoBulkAll el ≤ Rows.uptoBulk (.slice el sp) := by simp only [Rows.uptoBulk]; omega
  omega

set_option maxRecDepth 100000 in
theorem contract (H : Type) (enc : TypeId × Value → H) (W : World) (base : Nat) (args : Array Value) (ds gs : List (DataW H)) (before : List MemPlace)
    (hval : ∀ (j : Nat) t v, Try.f5.params[j]? = some t → args[j]? = some v → Value.okWide Try.prog W .any base t v)
    (hW : DataW.Whole enc Try.prog Try.f5.params.toList Rows.uartStreamSpec.vars false W args.toList ds gs before) (hk : Rows.uptoSmall H (ds ++ gs) = true) :
    Calls Try.prog 5 args W fun e W' => ∃ v, e = .returned v ∧ Rows.uartStreamSpec.post enc Try.prog Try.f5 false true false false W args v W' := by
  have hW' := hW
  obtain ⟨p, q, hA0, hV, rfl, hfz, hnd⟩ := hW
  have hA : DataW.TrodAll enc Try.prog W 0 (fun _ => true) true Try.f5.params.toList args.toList ds p := hA0
  rw [Try.params5] at hA hval
  obtain ⟨v0, vs0, d0, ds0, p0, q0, hargs, rfl, rfl, h0, r0⟩ := trodAll_cons hA
  obtain ⟨rfl, rfl, rfl⟩ := trodAll_nil r0
  obtain rfl : args = #[v0] := by cases args; simp_all
  obtain ⟨rfl, rfl⟩ := trodVars_none hV
  obtain ⟨g0, n0⟩ := arg_uos (hval 0 33 v0 rfl rfl) h0
  have u0 : lenOf v0 ≤ 1048576 := by
    rcases n0 with e | ⟨el, sp, hdt, hlen⟩
    · omega
    · rw [← hlen]
      exact slice_len (sp := sp) (by rw [← hdt]; simp) hk
  clear hA0
  try simp only [List.append_nil] at hW'
  refine (uartStream_walk v0 W g0 u0).mono fun e W' ⟨he, hb⟩ => ?_
  subst he
  exact ⟨_, rfl, [d0], [], _, [], _, [], hW', trodAll_cons_mk (shut_bool Try.underlying4 _) trodAll_mk0, (trodAll_cons_mk (staysP readOps (of_decide_eq_true (by kernel_rfl)) h0 hb) trodAll_mk0), rfl, hb.frame _, fun h => by cases h⟩

set_option maxRecDepth 100000 in
theorem lifted (os : Os) (started : os.Started) (H : Type) (enc : TypeId × Value → H) (F : Stop.Interp) :
    ReturnsInHanded {} Try.checked os 5 .any ((Rows.OpenSpec.upto Rows.uartStreamSpec).pre6 enc Try.prog Try.f5 Rows.uartStreamUptoRow.domain false) (((Rows.OpenSpec.upto Rows.uartStreamSpec).at F).post enc Try.prog Try.f5 false true false false) := by
  refine returnsInHanded_of_cond (C := Try.checked) (s := Rows.OpenSpec.upto Rows.uartStreamSpec) (k := Rows.uptoSmall) rfl ownP started (by kernel_rfl) Try.func5
    (OpenSpec.witness (enc := enc) (C := Try.checked) (s := Rows.OpenSpec.upto Rows.uartStreamSpec) (k := Rows.uptoSmall) rfl false ⟨#[], #[.slice none 0 0], []⟩ 8 (by kernel_rfl) (by kernel_rfl) (by kernel_rfl)
      (x := ([.nil], [], [])) (by kernel_rfl) rfl (by kernel_rfl)) ?_
  intro W base args ds gs before hval hW _ hk _
  exact contract H enc W base args ds gs before hval hW hk
theorem proved : Rows.UartStreamUptoSaid :=
  OpenClaim.holds_of_cond 5 Try.f5 rfl rfl rfl rfl rfl rfl rfl ⟨rfl, rfl, rfl, rfl, rfl⟩ rfl rfl rfl rfl rfl (by kernel_rfl) Try.func5 (by kernel_rfl)
    (of_decide_eq_true (by kernel_rfl)) (by unfold Func.isWrapper; first | (rw [if_pos (by decide +kernel)]; kernel_rfl) | (rw [if_neg (by decide +kernel)]; exact ⟨rfl, rfl⟩))
    (fun os started H enc _ F => lifted os started H enc F)
#print axioms proved
end Go.Proofs.Ytalcfbdnnlapnaa.uartStreamUpto
