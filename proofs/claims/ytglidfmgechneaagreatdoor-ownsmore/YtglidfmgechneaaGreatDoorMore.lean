/- OwnsMore, the tied card: for every two labels and every two lists of texts the law returns true, and each argument reads afterwards as it read before. Conditions: none beyond the row's own; the library's variables that the row lists are tied to the program's text by the card (over the pruned copy of the project that the seat holds; one table of the library is pinned by the form's constant). -/
import Derived.Test.YtglidfmgechneaaGreatDoorP
import Derived.Test.YtglidfmgechneaaGreatDoorPm
import Derived.Test.YtglidfmgechneaaGreatDoorMo
import Derived.Test.YtglidfmgechneaaGreatDoorTie
import Derived.Test.YtglidfmgechneaaGreatDoorCards
namespace Go.Proofs.YtglidfmgechneaaGreatDoor
open Go.ChangeShapes Go.WideShapes Go.ChangeAt Go.RowKit

set_option maxRecDepth 100000 in
theorem ownsMore_lifted (os : Os) (started : os.Started) (H : Type) (enc : TypeId × Value → H) (F : Stop.Interp) :
    ReturnsInHanded {} Tryz.checked os 5 .any ((OpenSpec.ofChange Rows.ownsMoreSpec).preRow enc Tryz.prog Tryz.f5 Rows.ownsMoreRow.domain false Rows.ownsMoreRow.laid) (((OpenSpec.ofChange Rows.ownsMoreSpec).at F).post enc Tryz.prog Tryz.f5 false true false false) := by
  refine returnsInHanded_of_row (C := Tryz.checked) (s := OpenSpec.ofChange Rows.ownsMoreSpec) Tryz.own started (by kernel_rfl) Tryz.func5
    (witness_laid (f := 5) (fn := Tryz.f5) (s := Rows.ownsMoreSpec) (laid := laidList) #[.agg #[.slice none 0 0, .slice none 0 0], .slice none 0 0, .slice none 0 0]
      (World.shaped_of_ZipB (by kernel_rfl) (by kernel_rfl)) (by kernel_rfl) (by kernel_rfl) (by kernel_rfl) (laid_met _)) ?_
  intro W base args ds gs before hval0 hW _ _ hwt hL hsh _
  have hval : ∀ (j : Nat) t v, Tryz.f5.params[j]? = some t → args[j]? = some v → Value.okWide Tryz.prog W .any base t v := hval0
  have hW' := hW
  obtain ⟨p, q, hA0, hV, rfl, _, _⟩ := hW
  have hA : DataW.TrodAll enc Tryz.prog W 0 (fun _ => true) true Tryz.f5.params.toList args.toList ds p := hA0
  have hwt2 : (DataW.weightsEach Tryz.prog (Tryz.f5.params.toList ++ (OpenSpec.ofChange Rows.ownsMoreSpec).bare.plain.varTypes Tryz.prog) (ds ++ gs)).all (· ≤ reachBytes) = true := hwt
  rw [Tryz.params5] at hA hval hwt2
  obtain ⟨v0, v1, v2, d0, d1, d2, p0, p1, p2, rfl, rfl, rfl, h0, h1, h2⟩ := trodAll_three hA
  obtain ⟨rfl, rfl⟩ := trodVars_none hV
  have he : Env W := env_of hsh hL
  obtain ⟨A, B, c, c', a, b, da, db, rfl, hd, ia, ib, na, nb, ma, mb, ka, kb⟩ := open_two h0 (hval 0 45 v0 rfl rfl)
  obtain ⟨A1, c1, l1, rfl, hnil1, hlm1, hxm1, hS1, hd1⟩ := open_texts h1 (okWide_slice Tryz.underlying22 (hval 1 22 v1 rfl rfl))
  obtain ⟨A2, c2, l2, rfl, hnil2, hlm2, hxm2, hS2, hd2⟩ := open_texts h2 (okWide_slice Tryz.underlying22 (hval 2 22 v2 rfl rfl))
  have hw : ∀ n ∈ DataW.weights Tryz.prog 45 d0, n ≤ reachBytes := fun n hn => by
    have h4 := List.all_eq_true.1 hwt2 n (DataW.weights_mem_each (P := Tryz.prog) (j := 0) (t := 45) (d := d0) rfl rfl n hn)
    simpa using h4
  have hwa : ∀ y ∈ [da, db], ∀ n ∈ DataW.weights Tryz.prog 43 y, n ≤ 140737488351232 := fun y hy n hn => by
    refine Nat.le_trans (hw n ?_) (by decide)
    rw [hd]
    simp only [DataW.weights, Tryz.underlying45]
    exact weights_all_mem hy hn
  have hcall := ownsMore_any he ⟨ka, na, ents_weight ia (hwa da (by simp)), ma⟩ ⟨kb, nb, ents_weight ib (hwa db (by simp)), mb⟩ hS1 hnil1 hxm1 hlm1 hS2 hnil2 hxm2 hlm2
  refine hcall.mono fun e W' ⟨he, hb⟩ => ?_
  subst he
  have hlt0 : ∀ x ∈ p0, x.block < W.heap.size := fun x hx => hW'.lt x (by simp [hx])
  have hlt1 : ∀ x ∈ p1, x.block < W.heap.size := fun x hx => hW'.lt x (by simp [hx])
  have hlt2 : ∀ x ∈ p2, x.block < W.heap.size := fun x hx => hW'.lt x (by simp [hx])
  have e1 : Rows.ownsMoreSpec.fn H ([d0, d1, d2] ++ []) = { results := [.lit (.bool true)], args := [d0, d1, d2] } := by simp [Rows.ownsMoreSpec]
  refine ⟨_, rfl, _, _, _, [], p0 ++ (p1 ++ p2), [], hW', ?_, ?_, ?_, hb.frame _, fun h => by cases h⟩
  · exact e1 ▸ trodAll_mk1 (shut_bool Tryz.underlying4 true)
  · exact e1 ▸ trodAll_mk3 (Below.trod Tryz.laidOut (by kernel_rfl) (of_decide_eq_true (by kernel_rfl)) h0 hb hlt0) (Below.trod Tryz.laidOut (by kernel_rfl) (of_decide_eq_true (by kernel_rfl)) h1 hb hlt1) (Below.trod Tryz.laidOut (by kernel_rfl) (of_decide_eq_true (by kernel_rfl)) h2 hb hlt2)
  · exact e1 ▸ rfl

theorem ownsMore_row : Rows.OwnsMoreSaid :=
  OpenClaim.holds_of_cond 5 Tryz.f5 rfl rfl rfl rfl rfl rfl rfl ⟨rfl, rfl, rfl, rfl, rfl⟩ rfl rfl rfl rfl rfl (by kernel_rfl) Tryz.func5 (by kernel_rfl)
    (of_decide_eq_true (by kernel_rfl)) (by unfold Func.isWrapper; rw [if_neg (of_decide_eq_false (by kernel_rfl))]; exact ⟨rfl, rfl⟩)
    (fun os started H enc _ F => by rw [OpenClaim.pre_eq_preRow]; exact ownsMore_lifted os started H enc F)

theorem ownsMore_holds : Rows.OwnsMoreCardSaid :=
  Claim7.holds_tied_plain_at .later [] _ _ _ _ ownsMore_row (fun _ h => by cases h) (by kernel_rfl) (fun _ h => by cases h) ownsMore_row_tie rfl ⟨rfl, rfl⟩ (by kernel_rfl) rfl
    (fun f fn hf hfn => by
      obtain rfl : f = 5 := Option.some.inj ((show Tryz.prog.funcNamed Rows.ownsMoreRow.func = some 5 by kernel_rfl).symm.trans hf) |>.symm
      obtain rfl : fn = Tryz.f5 := (Option.some.inj (Tryz.func5.symm.trans hfn)).symm
      exact ⟨by kernel_rfl, fun j t ht => by
        rw [Tryz.params5] at ht
        have hm : t ∈ [45, 22, 22] := by simpa using Array.mem_of_getElem? ht
        have hall : ([45, 22, 22].all fun u => !Tryz.prog.wantsStandIn u) = true := by kernel_rfl
        exact (show Tryz.prog.wantsStandIn t = false by simpa using List.all_eq_true.1 hall t hm)⟩)
    (by kernel_rfl)
end Go.Proofs.YtglidfmgechneaaGreatDoor
