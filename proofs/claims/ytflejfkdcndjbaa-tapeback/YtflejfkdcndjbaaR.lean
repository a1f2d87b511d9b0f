/- TapeBack, the full statement: for every list of operations and every slice of bytes the law returns true, and the arguments read afterwards as they read before. Conditions: none beyond the row's own. -/
import Derived.Test.YtflejfkdcndjbaaP
import Derived.Test.YtflejfkdcndjbaaK
namespace Go.Proofs.Ytflejfkdcndjbaa
open Go.ChangeShapes Go.WideShapes Go.ChangeAt Go.RowKit

theorem back_whole {w : World} {A Ab : Option Addr} {c cb : Nat} {l : List Opr} {bl : List Nat} (hl : Ops w w.heap.size A l) (hb : Bts w w.heap.size Ab bl) (hs : Sml bl) (hA : Ab = none → cb = 0) (hln : l.length ≤ maxLen) (hbn : bl.length ≤ maxLen) :
    Calls Try.prog 4 #[.slice A l.length c, .slice Ab bl.length cb] w (Fine w) := by
  by_cases h : 2000 < bl.length ∨ 60 < l.length
  · exact back_big hln hbn h
  · exact back_any hl hb hs hA (by omega) (by omega)

set_option maxRecDepth 100000 in
theorem back_lifted (os : Os) (started : os.Started) (H : Type) (enc : TypeId × Value → H) :
    ReturnsInHanded {} Try.checked os 4 .any (Rows.tapeBackSpec.pre6 enc Try.prog Try.f4 Rows.tapeBackRow.domain false) (Rows.tapeBackSpec.post enc Try.prog Try.f4 false true false false) := by
  refine returnsInHanded_of_change (C := Try.checked) Try.own started (by kernel_rfl) Try.func4
    (ChangeSpec.witness6 (enc := enc) (C := Try.checked) false ⟨#[], #[.slice none 0 0, .slice none 0 0], []⟩ 8 (by kernel_rfl) (by kernel_rfl) (by kernel_rfl) (by kernel_rfl)) ?_
  intro W base args ds gs before hval0 hW _ _
  have hval : ∀ (j : Nat) t v, Try.f4.params[j]? = some t → args[j]? = some v → Value.okWide Try.prog W .any base t v := hval0
  have hW' := hW
  obtain ⟨p, q, hA0, hV, rfl, _, _⟩ := hW
  have hA : DataW.TrodAll enc Try.prog W 0 (fun _ => true) true Try.f4.params.toList args.toList ds p := hA0
  rw [Try.params4] at hA hval
  obtain ⟨v0, v1, d0, d1, p0, p1, rfl, rfl, rfl, h0, h1⟩ := trodAll_two hA
  obtain ⟨rfl, rfl⟩ := trodVars_none hV
  obtain ⟨A, n, c, rfl, hn, l, rfl, hl, _⟩ := open_ops h0 (okWide_slice Try.underlying22 (hval 0 22 v0 rfl rfl))
  obtain ⟨Ab, nb, cb, rfl, hnb, hcb, hAb, bl, rfl, hs, hb⟩ := open_bts h1 (okWide_slice Try.underlying25 (hval 1 25 v1 rfl rfl))
  refine (back_whole hl hb hs hAb hn (Nat.le_trans hnb hcb)).mono fun e W' ⟨he, hbl⟩ => ?_
  subst he
  have hlt0 : ∀ x ∈ p0, x.block < W.heap.size := fun x hx => hW'.lt x (by simp [hx])
  have hlt1 : ∀ x ∈ p1, x.block < W.heap.size := fun x hx => hW'.lt x (by simp [hx])
  have e1 : Rows.tapeBackSpec.fn H ([d0, d1] ++ []) = { results := [.lit (.bool true)], args := [d0, d1] } := by simp [Rows.tapeBackSpec]
  refine ⟨_, rfl, _, _, _, [], p0 ++ p1, [], hW', ?_, ?_, ?_, hbl.frame _, fun h => by cases h⟩
  · rw [e1]; exact trodAll_mk1 (shut_bool Try.underlying4 true)
  · rw [e1]; exact trodAll_mk2 (Below.trod Try.laidOut (by kernel_rfl) (of_decide_eq_true (by kernel_rfl)) h0 hbl hlt0) (Below.trod Try.laidOut (by kernel_rfl) (of_decide_eq_true (by kernel_rfl)) h1 hbl hlt1)
  · rw [e1]; rfl

theorem tapeBack_holds : Rows.TapeBackSaid :=
  OpenClaim.holds_of_wide 4 Try.f4 rfl rfl rfl rfl rfl rfl rfl ⟨rfl, rfl, rfl, rfl, rfl⟩ rfl rfl rfl rfl rfl (by kernel_rfl) Try.func4 (by kernel_rfl)
    (of_decide_eq_true (by kernel_rfl)) (by unfold Func.isWrapper; rw [if_neg (of_decide_eq_false (by kernel_rfl))]; exact ⟨rfl, rfl⟩)
    (fun os started H enc _ => back_lifted os started H enc)
end Go.Proofs.Ytflejfkdcndjbaa
