/- CodeTogether: the law of that name returns true for every input, and its arguments read behind the call as they did before. Conditions: none but the row's own (the listed table starts as the text lays it, which the card ties). -/
import Derived.Test.YtdjkjeaoeolieaaRows
import Derived.Test.YtdjkjeaoeolieaaFrame
import Derived.Test.YtdjkjeaoeolieaaOpen
import Derived.Test.YtdjkjeaoeolieaaTogether
namespace Go.Proofs.Ytdjkjeaoeolieaa.codeTogether
open Go.ChangeShapes Go.WideShapes Go.ChangeAt Go.RowKit
theorem own : ownKnob Try.prog.godebug = none := by kernel_rfl

set_option maxRecDepth 100000 in
/-- What the walk gives, for every argument. -/
theorem contract (H : Type) (enc : TypeId × Value → H) (W : World) (base : Nat) (args : Array Value) (ds gs : List (DataW H)) (before : List MemPlace)
    (hval : ∀ (j : Nat) t v, Try.f8.params[j]? = some t → args[j]? = some v → Value.okWide Try.prog W .any base t v)
    (hW : DataW.Whole enc Try.prog Try.f8.params.toList Rows.codeTogetherSpec.vars false W args.toList ds gs before) :
    Calls Try.prog 8 args W fun e W' => ∃ v, e = .returned v ∧ Rows.codeTogetherSpec.post enc Try.prog Try.f8 false true false false W args v W' := by
  have hW' := hW
  obtain ⟨p, q, hA0, hV, rfl, hfz, hnd⟩ := hW
  have hA : DataW.TrodAll enc Try.prog W 0 (fun _ => true) true Try.f8.params.toList args.toList ds p := hA0
  rw [Try.params8] at hA hval
  obtain ⟨v0, vs0, d0, ds0, p0, q0, hargs, rfl, rfl, h0, r0⟩ := trodAll_cons hA
  obtain ⟨v1, vs1, d1, ds1, p1, q1, rfl, rfl, rfl, h1, r1⟩ := trodAll_cons r0
  obtain ⟨v2, vs2, d2, ds2, p2, q2, rfl, rfl, rfl, h2, r2⟩ := trodAll_cons r1
  obtain ⟨v3, vs3, d3, ds3, p3, q3, rfl, rfl, rfl, h3, r3⟩ := trodAll_cons r2
  obtain ⟨rfl, rfl, rfl⟩ := trodAll_nil r3
  obtain rfl : args = #[v0, v1, v2, v3] := by cases args; simp_all
  obtain ⟨rfl, rfl⟩ := trodVars_none hV
  obtain ⟨l0, m0, b0⟩ := open_u64sV Try.underlying69 Try.underlying29 (by kernel_rfl) (hval 0 69 v0 rfl rfl) h0
  obtain ⟨l1, m1, b1⟩ := open_numsV Try.underlying70 Try.underlying2 (by kernel_rfl) (hval 1 70 v1 rfl rfl) h1
  obtain ⟨l2, m2, b2⟩ := open_strsV Try.underlying43 Try.underlying9 (by kernel_rfl) (hval 2 43 v2 rfl rfl) h2
  obtain ⟨l3, m3⟩ := open_boolsV Try.underlying71 Try.underlying4 (by kernel_rfl) (hval 3 71 v3 rfl rfl) h3
  have walk : Calls Try.prog 8 _ W fun e w' => e = .returned (.bool true) ∧ Below W.heap.size W w' :=
    (together_any _ _ _ _ l0 l1 l2 l3 W m0 m1 m2 m3 b0 fun n hn => bounds_i64 (b1 n hn))
  refine walk.mono fun e W' ⟨he, hb⟩ => ?_
  subst he
  exact ⟨_, rfl, law_post (by kernel_rfl) (by kernel_rfl) Try.underlying4 rfl rfl rfl hW' hb⟩

set_option maxRecDepth 100000 in
theorem lifted (os : Os) (started : os.Started) (H : Type) (enc : TypeId × Value → H) (_ : ∀ a b, enc a = enc b → a = b) :
    ReturnsInHanded {} Try.checked os 8 .any (Rows.codeTogetherSpec.pre6 enc Try.prog Try.f8 Rows.codeTogetherRow.domain false) (Rows.codeTogetherSpec.post enc Try.prog Try.f8 false true false false) := by
  refine returnsInHanded_of_change (C := Try.checked) (s := Rows.codeTogetherSpec) own started (by kernel_rfl) Try.func8
    (ChangeSpec.witness6 (enc := enc) (C := Try.checked) false ⟨#[], #[.slice none 0 0, .slice none 0 0, .slice none 0 0, .slice none 0 0], []⟩ 8 (by kernel_rfl) (by kernel_rfl) (by kernel_rfl) (by kernel_rfl)) ?_
  intro W base args ds gs before hval hW _ _
  exact contract H enc W base args ds gs before hval hW
theorem said : Rows.CodeTogetherSaid :=
  OpenClaim.holds_of_wide 8 Try.f8 rfl rfl rfl rfl rfl rfl rfl ⟨rfl, rfl, rfl, rfl, rfl⟩ rfl rfl rfl rfl rfl (by kernel_rfl) Try.func8 (by kernel_rfl)
    (of_decide_eq_true (by kernel_rfl)) (by unfold Func.isWrapper; first | (rw [if_pos (by decide +kernel)]; kernel_rfl) | (rw [if_neg (by decide +kernel)]; exact ⟨rfl, rfl⟩))
    lifted
end Go.Proofs.Ytdjkjeaoeolieaa.codeTogether
