/- CatsNames, the tied card: for every text, every slice of ints and every int the law returns true, and each argument reads afterwards as it read before. Conditions: none beyond the row's own; the library's variables that the row lists are tied to the program's text by the card (over the pruned copy of the project that the seat holds; one table of the library is pinned by the form's constant). -/
import Derived.Test.YtkjenigpheppjaaDoorP
import Derived.Test.YtkjenigpheppjaaDoorU
import Derived.Test.YtkjenigpheppjaaDoorTie
import Derived.Test.YtkjenigpheppjaaDoorCards
namespace Go.Proofs.YtkjenigpheppjaaDoor
open Go.ChangeShapes Go.WideShapes Go.ChangeAt Go.RowKit

set_option maxRecDepth 100000 in
theorem catsNames_lifted (os : Os) (started : os.Started) (H : Type) (enc : TypeId × Value → H) (F : Stop.Interp) :
    ReturnsInHanded {} Tryd.checked os 3 .any ((OpenSpec.ofChange Rows.catsNamesSpec).preRow enc Tryd.prog Tryd.f3 Rows.catsNamesRow.domain false Rows.catsNamesRow.laid) (((OpenSpec.ofChange Rows.catsNamesSpec).at F).post enc Tryd.prog Tryd.f3 false true false false) := by
  refine returnsInHanded_of_row (C := Tryd.checked) (s := OpenSpec.ofChange Rows.catsNamesSpec) Tryd.own started (by kernel_rfl) Tryd.func3
    (witness_laid (f := 3) (fn := Tryd.f3) (s := Rows.catsNamesSpec) (laid := laidList) #[.string ⟨#[]⟩, .slice none 0 0, .int .i64 0]
      (World.shaped_of_ZipB (by kernel_rfl) (by kernel_rfl)) (by kernel_rfl) (by kernel_rfl) (by kernel_rfl) (laid_met _)) ?_
  intro W base args ds gs before hval0 hW _ _ hwt hL hsh _
  have hval : ∀ (j : Nat) t v, Tryd.f3.params[j]? = some t → args[j]? = some v → Value.okWide Tryd.prog W .any base t v := hval0
  have hW' := hW
  obtain ⟨p, q, hA0, hV, rfl, _, _⟩ := hW
  have hA : DataW.TrodAll enc Tryd.prog W 0 (fun _ => true) true Tryd.f3.params.toList args.toList ds p := hA0
  have hwt2 : (DataW.weightsEach Tryd.prog (Tryd.f3.params.toList ++ (OpenSpec.ofChange Rows.catsNamesSpec).bare.plain.varTypes Tryd.prog) (ds ++ gs)).all (· ≤ reachBytes) = true := hwt
  rw [Tryd.params3] at hA hval hwt2
  obtain ⟨v0, v1, v2, d0, d1, d2, p0, p1, p2, rfl, rfl, rfl, h0, h1, h2⟩ := trodAll_three hA
  obtain ⟨rfl, rfl⟩ := trodVars_none hV
  have he : Env W := env_of hsh hL
  obtain ⟨s, rfl, rfl, rfl, hsm⟩ := Go.ChangeMaps.open_string Tryd.underlying9 (hval 0 9 v0 rfl rfl) h0
  obtain ⟨A, c, zs, rfl, hzm, hI⟩ := open_nums h1 (okWide_slice Tryd.underlying22 (hval 1 22 v1 rfl rfl))
  obtain ⟨n2, rfl, rfl, rfl, w2⟩ := open_int Tryd.underlying3 (hval 2 3 v2 rfl rfl) h2
  have hcall := names_any (s := s.data.toList) (c := c) (n := n2) he hI hzm (by rw [Array.length_toList]; exact hsm)
  rw [← str_of s] at hcall
  refine (hcall).mono fun e W' ⟨he, hb⟩ => ?_
  subst he
  have hlt1 : ∀ x ∈ p1, x.block < W.heap.size := fun x hx => hW'.lt x (by simp [hx])
  have e1 : Rows.catsNamesSpec.fn H ([(.lit (.string s.data.toList)), d1, (.lit (.int .i64 n2))] ++ []) = { results := [.lit (.bool true)], args := [(.lit (.string s.data.toList)), d1, (.lit (.int .i64 n2))] } := by simp [Rows.catsNamesSpec]
  refine ⟨_, rfl, _, _, _, [], [] ++ (p1 ++ []), [], hW', ?_, ?_, ?_, hb.frame _, fun h => by cases h⟩
  · exact e1 ▸ trodAll_mk1 (shut_bool Tryd.underlying4 true)
  · exact e1 ▸ trodAll_mk3 (Go.ChangeMaps.shut_string Tryd.underlying9 hsm) (Below.trod Tryd.laidOut (by kernel_rfl) (of_decide_eq_true (by kernel_rfl)) h1 hb hlt1) (shut_int Tryd.underlying3 w2)
  · exact e1 ▸ rfl

theorem catsNames_row : Rows.CatsNamesSaid :=
  OpenClaim.holds_of_cond 3 Tryd.f3 rfl rfl rfl rfl rfl rfl rfl ⟨rfl, rfl, rfl, rfl, rfl⟩ rfl rfl rfl rfl rfl (by kernel_rfl) Tryd.func3 (by kernel_rfl)
    (of_decide_eq_true (by kernel_rfl)) (by unfold Func.isWrapper; rw [if_neg (of_decide_eq_false (by kernel_rfl))]; exact ⟨rfl, rfl⟩)
    (fun os started H enc _ F => by rw [OpenClaim.pre_eq_preRow]; exact catsNames_lifted os started H enc F)

theorem catsNames_holds : Rows.CatsNamesCardSaid :=
  Claim7.holds_tied_plain_at .later [] _ _ _ _ catsNames_row (fun _ h => by cases h) (by kernel_rfl) (fun _ h => by cases h) catsNames_row_tie rfl ⟨rfl, rfl⟩ (by kernel_rfl) rfl
    (fun f fn hf hfn => by
      obtain rfl : f = 3 := Option.some.inj ((show Tryd.prog.funcNamed Rows.catsNamesRow.func = some 3 by kernel_rfl).symm.trans hf) |>.symm
      obtain rfl : fn = Tryd.f3 := (Option.some.inj (Tryd.func3.symm.trans hfn)).symm
      exact ⟨by kernel_rfl, fun j t ht => by
        rw [Tryd.params3] at ht
        have hm : t ∈ [9, 22, 3] := by simpa using Array.mem_of_getElem? ht
        have hall : ([9, 22, 3].all fun u => !Tryd.prog.wantsStandIn u) = true := by kernel_rfl
        exact (show Tryd.prog.wantsStandIn t = false by simpa using List.all_eq_true.1 hall t hm)⟩)
    (by kernel_rfl)
end Go.Proofs.YtkjenigpheppjaaDoor
