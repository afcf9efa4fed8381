/- Threads of at least a level run just as they do without those of lower levels.
   Conditions: none. -/
import Derived.Test.YtningajaimbncaaRows
import Derived.Test.YtningajaimbncaaCorZC
import Derived.Test.YtningajaimbncaaCorO
import Derived.JoinedCond
import Derived.SizedLaws
namespace Go.Proofs.Ytningajaimbncaa.coresAlone
open Go.ChangeShapes Go.WideShapes Go.ChangeAt Go.RowKit

set_option maxRecDepth 100000 in
theorem contract (H : Type) (enc : TypeId × Value → H) (W : World) (base : Nat) (args : Array Value) (ds gs : List (DataW H)) (before : List MemPlace)
    (hval : ∀ (j : Nat) t v, Try.f6.params[j]? = some t → args[j]? = some v → Value.okWide Try.prog W .any base t v)
    (hW : DataW.Whole enc Try.prog Try.f6.params.toList Rows.coresAloneSpec.vars false W args.toList ds gs before) (hsz : (DataW.weightsEach Try.prog (Try.f6.params.toList ++ Rows.coresAloneSpec.plain.varTypes Try.prog) (ds ++ gs)).all (· ≤ reachBytes) = true) :
    Calls Try.prog 6 args W fun e W' => ∃ v, e = .returned v ∧ Rows.coresAloneSpec.post enc Try.prog Try.f6 false true false false W args v W' := by
  have hW' := hW
  obtain ⟨p, q, hA0, hV, rfl, hfz, hnd⟩ := hW
  have hA : DataW.TrodAll enc Try.prog W 0 (fun _ => true) true Try.f6.params.toList args.toList ds p := hA0
  rw [Try.params6] at hA hval
  obtain ⟨v0, vs0, d0, ds0, p0, q0, hargs, rfl, rfl, h0, r0⟩ := trodAll_cons hA
  obtain ⟨v1, vs1, d1, ds1, p1, q1, rfl, rfl, rfl, h1, r1⟩ := trodAll_cons r0
  obtain ⟨v2, vs2, d2, ds2, p2, q2, rfl, rfl, rfl, h2, r2⟩ := trodAll_cons r1
  obtain ⟨v3, vs3, d3, ds3, p3, q3, rfl, rfl, rfl, h3, r3⟩ := trodAll_cons r2
  obtain ⟨v4, vs4, d4, ds4, p4, q4, rfl, rfl, rfl, h4, r4⟩ := trodAll_cons r3
  obtain ⟨rfl, rfl, rfl⟩ := trodAll_nil r4
  obtain rfl : args = #[v0, v1, v2, v3, v4] := by cases args; simp_all
  obtain ⟨rfl, rfl⟩ := trodVars_none hV
  have g0 := arg_int (hval 0 3 v0 rfl rfl) h0
  have g1 := arg_int (hval 1 3 v1 rfl rfl) h1
  obtain ⟨g2, n2⟩ := arg_ths (hval 2 22 v2 rfl rfl) h2
  have u2 : lenOf v2 ≤ 5864062014634 := by
    rcases n2 with e | ⟨el, sp, hdt, hlen⟩
    · omega
    · have hz := sized_slice (j := 2) (t := 22) (elems := el) (spare := sp) hsz (by kernel_rfl) (by rw [hdt]; rfl) Try.underlying22
      rw [show Try.prog.bytesOf 35 = 24 by kernel_rfl] at hz
      have := reachBytes_lt
      have hrb : reachBytes = 140737488351232 := rfl
      omega
  have g3 := arg_int (hval 3 3 v3 rfl rfl) h3
  have g4 := arg_int (hval 4 3 v4 rfl rfl) h4
  clear hA0
  try simp only [List.append_nil] at hW'
  refine (coresAlone_walk v0 v1 v2 v3 v4 W g0 g1 g2 g3 g4 u2).mono fun e W' ⟨he, hb⟩ => ?_
  subst he
  exact ⟨_, rfl, [d0, d1, d2, d3, d4], [], _, [], _, [], hW', trodAll_cons_mk (shut_bool Try.underlying4 _) trodAll_mk0, (trodAll_cons_mk (staysP readInt (of_decide_eq_true (by kernel_rfl)) h0 hb) (trodAll_cons_mk (staysP readInt (of_decide_eq_true (by kernel_rfl)) h1 hb) (trodAll_cons_mk (staysP readThs (of_decide_eq_true (by kernel_rfl)) h2 hb) (trodAll_cons_mk (staysP readInt (of_decide_eq_true (by kernel_rfl)) h3 hb) (trodAll_cons_mk (staysP readInt (of_decide_eq_true (by kernel_rfl)) h4 hb) trodAll_mk0))))), rfl, hb.frame _, fun h => by cases h⟩

set_option maxRecDepth 100000 in
theorem lifted (os : Os) (started : os.Started) (H : Type) (enc : TypeId × Value → H) :
    ReturnsInHanded {} Try.checked os 6 .any (Rows.coresAloneSpec.pre6 enc Try.prog Try.f6 Rows.coresAloneRow.domain false) (Rows.coresAloneSpec.post enc Try.prog Try.f6 false true false false) := by
  refine returnsInHanded_of_change_sized (C := Try.checked) ownP started (by kernel_rfl) Try.func6
    (ChangeSpec.witness6 (enc := enc) (C := Try.checked) false ⟨#[], #[.int .i64 0, .int .i64 0, .slice none 0 0, .int .i64 0, .int .i64 0], []⟩ 8 (by kernel_rfl) (by kernel_rfl) (by kernel_rfl) (by kernel_rfl)) ?_
  intro W base args ds gs before hval hW _ hz _
  exact contract H enc W base args ds gs before hval hW hz
theorem proved : Rows.CoresAloneSaid :=
  OpenClaim.holds_of_wide 6 Try.f6 rfl rfl rfl rfl rfl rfl rfl ⟨rfl, rfl, rfl, rfl, rfl⟩ rfl rfl rfl rfl rfl (by kernel_rfl) Try.func6 (by kernel_rfl)
    (of_decide_eq_true (by kernel_rfl)) (by unfold Func.isWrapper; first | (rw [if_pos (by decide +kernel)]; kernel_rfl) | (rw [if_neg (by decide +kernel)]; exact ⟨rfl, rfl⟩))
    (fun os started H enc _ => lifted os started H enc)
#print axioms proved
end Go.Proofs.Ytningajaimbncaa.coresAlone
