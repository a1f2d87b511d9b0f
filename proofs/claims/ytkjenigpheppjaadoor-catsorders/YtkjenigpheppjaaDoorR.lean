/- CatsOrders, the tied card: for every slice of texts the law returns true, and the argument reads afterwards as it read before. Conditions: none beyond the row's own; the library's variables that the row lists are tied to the program's text by the card (over the pruned copy of the project that the seat holds; one table of the library is pinned by the form's constant). -/
import Derived.Test.YtkjenigpheppjaaDoorP
import Derived.Test.YtkjenigpheppjaaDoorY
import Derived.Test.YtkjenigpheppjaaDoorT
import Derived.Test.YtkjenigpheppjaaDoorTie
import Derived.Test.YtkjenigpheppjaaDoorCards
namespace Go.Proofs.YtkjenigpheppjaaDoor
open Go.ChangeShapes Go.WideShapes Go.ChangeAt Go.RowKit

set_option maxRecDepth 100000 in
theorem catsOrders_lifted (os : Os) (started : os.Started) (H : Type) (enc : TypeId × Value → H) (F : Stop.Interp) :
    ReturnsInHanded {} Tryd.checked os 4 .any ((OpenSpec.ofChange Rows.catsOrdersSpec).preRow enc Tryd.prog Tryd.f4 Rows.catsOrdersRow.domain false Rows.catsOrdersRow.laid) (((OpenSpec.ofChange Rows.catsOrdersSpec).at F).post enc Tryd.prog Tryd.f4 false true false false) := by
  refine returnsInHanded_of_row (C := Tryd.checked) (s := OpenSpec.ofChange Rows.catsOrdersSpec) Tryd.own started (by kernel_rfl) Tryd.func4
    (witness_laid (f := 4) (fn := Tryd.f4) (s := Rows.catsOrdersSpec) (laid := laidList) #[.slice none 0 0]
      (World.shaped_of_ZipB (by kernel_rfl) (by kernel_rfl)) (by kernel_rfl) (by kernel_rfl) (by kernel_rfl) (laid_met _)) ?_
  intro W base args ds gs before hval0 hW _ _ hwt hL hsh _
  have hval : ∀ (j : Nat) t v, Tryd.f4.params[j]? = some t → args[j]? = some v → Value.okWide Tryd.prog W .any base t v := hval0
  have hW' := hW
  obtain ⟨p, q, hA0, hV, rfl, _, _⟩ := hW
  have hA : DataW.TrodAll enc Tryd.prog W 0 (fun _ => true) true Tryd.f4.params.toList args.toList ds p := hA0
  have hwt2 : (DataW.weightsEach Tryd.prog (Tryd.f4.params.toList ++ (OpenSpec.ofChange Rows.catsOrdersSpec).bare.plain.varTypes Tryd.prog) (ds ++ gs)).all (· ≤ reachBytes) = true := hwt
  rw [Tryd.params4] at hA hval hwt2
  obtain ⟨v0, d0, rfl, rfl, h0⟩ := trodAll_one hA
  obtain ⟨rfl, rfl⟩ := trodVars_none hV
  have he : Env W := env_of hsh hL
  obtain ⟨A, c, l, rfl, hlm, hxm, hS, _⟩ := open_texts h0 (okWide_slice Tryd.underlying36 (hval 0 36 v0 rfl rfl))
  refine (orders_any (c := c) (fun W h => first_true h) (fun W A c l h1 h2 h3 h4 => sort_any h1 h2 h3 h4) he hS hlm hxm).mono fun e W' ⟨he, hb⟩ => ?_
  subst he
  have hlt0 : ∀ x ∈ p, x.block < W.heap.size := fun x hx => hW'.lt x (by simp [hx])
  have e1 : Rows.catsOrdersSpec.fn H ([d0] ++ []) = { results := [.lit (.bool true)], args := [d0] } := by simp [Rows.catsOrdersSpec]
  refine ⟨_, rfl, _, _, _, [], p, [], hW', ?_, ?_, ?_, hb.frame _, fun h => by cases h⟩
  · exact e1 ▸ trodAll_mk1 (shut_bool Tryd.underlying4 true)
  · exact e1 ▸ trodAll_mk1 (Below.trod Tryd.laidOut (by kernel_rfl) (of_decide_eq_true (by kernel_rfl)) h0 hb hlt0)
  · exact e1 ▸ rfl

theorem catsOrders_row : Rows.CatsOrdersSaid :=
  OpenClaim.holds_of_cond 4 Tryd.f4 rfl rfl rfl rfl rfl rfl rfl ⟨rfl, rfl, rfl, rfl, rfl⟩ rfl rfl rfl rfl rfl (by kernel_rfl) Tryd.func4 (by kernel_rfl)
    (of_decide_eq_true (by kernel_rfl)) (by unfold Func.isWrapper; rw [if_neg (of_decide_eq_false (by kernel_rfl))]; exact ⟨rfl, rfl⟩)
    (fun os started H enc _ F => by rw [OpenClaim.pre_eq_preRow]; exact catsOrders_lifted os started H enc F)

theorem catsOrders_holds : Rows.CatsOrdersCardSaid :=
  Claim7.holds_tied_plain_at .later [] _ _ _ _ catsOrders_row (fun _ h => by cases h) (by kernel_rfl) (fun _ h => by cases h) catsOrders_row_tie rfl ⟨rfl, rfl⟩ (by kernel_rfl) rfl
    (fun f fn hf hfn => by
      obtain rfl : f = 4 := Option.some.inj ((show Tryd.prog.funcNamed Rows.catsOrdersRow.func = some 4 by kernel_rfl).symm.trans hf) |>.symm
      obtain rfl : fn = Tryd.f4 := (Option.some.inj (Tryd.func4.symm.trans hfn)).symm
      exact ⟨by kernel_rfl, fun j t ht => by
        rw [Tryd.params4] at ht
        have hm : t ∈ [36] := by simpa using Array.mem_of_getElem? ht
        have hall : ([36].all fun u => !Tryd.prog.wantsStandIn u) = true := by kernel_rfl
        exact (show Tryd.prog.wantsStandIn t = false by simpa using List.all_eq_true.1 hall t hm)⟩)
    (by kernel_rfl)
end Go.Proofs.YtkjenigpheppjaaDoor
