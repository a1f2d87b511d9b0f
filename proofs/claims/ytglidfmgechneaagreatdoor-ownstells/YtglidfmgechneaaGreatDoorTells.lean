/- OwnsTells, the tied card: for every two lists of texts and every text the law returns true, and each argument reads afterwards as it read before. Conditions: none beyond the row's own; the library's variables that the row lists are tied to the program's text by the card (over the pruned copy of the project that the seat holds; one table of the library is pinned by the form's constant). -/
import Derived.Test.YtglidfmgechneaaGreatDoorP
import Derived.Test.YtglidfmgechneaaGreatDoorTl
import Derived.Test.YtglidfmgechneaaGreatDoorTie
import Derived.Test.YtglidfmgechneaaGreatDoorCards
namespace Go.Proofs.YtglidfmgechneaaGreatDoor
open Go.ChangeShapes Go.WideShapes Go.ChangeAt Go.RowKit

set_option maxRecDepth 100000 in
theorem ownsTells_lifted (os : Os) (started : os.Started) (H : Type) (enc : TypeId × Value → H) (F : Stop.Interp) :
    ReturnsInHanded {} Tryz.checked os 3 .any ((OpenSpec.ofChange Rows.ownsTellsSpec).preRow enc Tryz.prog Tryz.f3 Rows.ownsTellsRow.domain false Rows.ownsTellsRow.laid) (((OpenSpec.ofChange Rows.ownsTellsSpec).at F).post enc Tryz.prog Tryz.f3 false true false false) := by
  refine returnsInHanded_of_row (C := Tryz.checked) (s := OpenSpec.ofChange Rows.ownsTellsSpec) Tryz.own started (by kernel_rfl) Tryz.func3
    (witness_laid (f := 3) (fn := Tryz.f3) (s := Rows.ownsTellsSpec) (laid := laidList) #[.slice none 0 0, .slice none 0 0, .string ⟨#[]⟩]
      (World.shaped_of_ZipB (by kernel_rfl) (by kernel_rfl)) (by kernel_rfl) (by kernel_rfl) (by kernel_rfl) (laid_met _)) ?_
  intro W base args ds gs before hval0 hW _ _ hwt hL hsh _
  have hval : ∀ (j : Nat) t v, Tryz.f3.params[j]? = some t → args[j]? = some v → Value.okWide Tryz.prog W .any base t v := hval0
  have hW' := hW
  obtain ⟨p, q, hA0, hV, rfl, _, _⟩ := hW
  have hA : DataW.TrodAll enc Tryz.prog W 0 (fun _ => true) true Tryz.f3.params.toList args.toList ds p := hA0
  have hwt2 : (DataW.weightsEach Tryz.prog (Tryz.f3.params.toList ++ (OpenSpec.ofChange Rows.ownsTellsSpec).bare.plain.varTypes Tryz.prog) (ds ++ gs)).all (· ≤ reachBytes) = true := hwt
  rw [Tryz.params3] at hA hval hwt2
  obtain ⟨v0, v1, v2, d0, d1, d2, p0, p1, p2, rfl, rfl, rfl, h0, h1, h2⟩ := trodAll_three hA
  obtain ⟨rfl, rfl⟩ := trodVars_none hV
  have he : Env W := env_of hsh hL
  obtain ⟨A0, c0, l0, rfl, hnil0, hlm0, hxm0, hS0, hd0⟩ := open_texts h0 (okWide_slice Tryz.underlying22 (hval 0 22 v0 rfl rfl))
  obtain ⟨A1, c1, l1, rfl, hnil1, hlm1, hxm1, hS1, hd1⟩ := open_texts h1 (okWide_slice Tryz.underlying22 (hval 1 22 v1 rfl rfl))
  obtain ⟨s, rfl, rfl, rfl, hsm⟩ := Go.ChangeMaps.open_string Tryz.underlying9 (hval 2 9 v2 rfl rfl) h2
  have hcall := ownsTells_any (s := s.data.toList) he hS0 hnil0 hxm0 hlm0 hS1 hnil1 hxm1 hlm1 (by rw [Array.length_toList]; exact hsm)
  rw [← str_of s] at hcall
  refine hcall.mono fun e W' ⟨he, hb⟩ => ?_
  subst he
  have hlt0 : ∀ x ∈ p0, x.block < W.heap.size := fun x hx => hW'.lt x (by simp [hx])
  have hlt1 : ∀ x ∈ p1, x.block < W.heap.size := fun x hx => hW'.lt x (by simp [hx])
  have e1 : Rows.ownsTellsSpec.fn H ([d0, d1, (.lit (.string s.data.toList))] ++ []) = { results := [.lit (.bool true)], args := [d0, d1, (.lit (.string s.data.toList))] } := by simp [Rows.ownsTellsSpec]
  refine ⟨_, rfl, _, _, _, [], p0 ++ (p1 ++ []), [], hW', ?_, ?_, ?_, hb.frame _, fun h => by cases h⟩
  · exact e1 ▸ trodAll_mk1 (shut_bool Tryz.underlying4 true)
  · exact e1 ▸ trodAll_mk3 (Below.trod Tryz.laidOut (by kernel_rfl) (of_decide_eq_true (by kernel_rfl)) h0 hb hlt0) (Below.trod Tryz.laidOut (by kernel_rfl) (of_decide_eq_true (by kernel_rfl)) h1 hb hlt1) (Go.ChangeMaps.shut_string Tryz.underlying9 hsm)
  · exact e1 ▸ rfl

theorem ownsTells_row : Rows.OwnsTellsSaid :=
  OpenClaim.holds_of_cond 3 Tryz.f3 rfl rfl rfl rfl rfl rfl rfl ⟨rfl, rfl, rfl, rfl, rfl⟩ rfl rfl rfl rfl rfl (by kernel_rfl) Tryz.func3 (by kernel_rfl)
    (of_decide_eq_true (by kernel_rfl)) (by unfold Func.isWrapper; rw [if_neg (of_decide_eq_false (by kernel_rfl))]; exact ⟨rfl, rfl⟩)
    (fun os started H enc _ F => by rw [OpenClaim.pre_eq_preRow]; exact ownsTells_lifted os started H enc F)

theorem ownsTells_holds : Rows.OwnsTellsCardSaid :=
  Claim7.holds_tied_plain_at .later [] _ _ _ _ ownsTells_row (fun _ h => by cases h) (by kernel_rfl) (fun _ h => by cases h) ownsTells_row_tie rfl ⟨rfl, rfl⟩ (by kernel_rfl) rfl
    (fun f fn hf hfn => by
      obtain rfl : f = 3 := Option.some.inj ((show Tryz.prog.funcNamed Rows.ownsTellsRow.func = some 3 by kernel_rfl).symm.trans hf) |>.symm
      obtain rfl : fn = Tryz.f3 := (Option.some.inj (Tryz.func3.symm.trans hfn)).symm
      exact ⟨by kernel_rfl, fun j t ht => by
        rw [Tryz.params3] at ht
        have hm : t ∈ [22, 22, 9] := by simpa using Array.mem_of_getElem? ht
        have hall : ([22, 22, 9].all fun u => !Tryz.prog.wantsStandIn u) = true := by kernel_rfl
        exact (show Tryz.prog.wantsStandIn t = false by simpa using List.all_eq_true.1 hall t hm)⟩)
    (by kernel_rfl)
end Go.Proofs.YtglidfmgechneaaGreatDoor
