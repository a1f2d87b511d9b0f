/- LabelTells, the tied card: for every label, every text and every int the law returns true, and each argument reads afterwards as it read before. Conditions: none beyond the row's own; the library's variables that the row lists are tied to the program's text by the card (over the pruned copy of the project that the seat holds; one table of the library is pinned by the form's constant). -/
import Derived.Test.YtpokdihnimlgkaaGreatDoorP
import Derived.Test.YtpokdihnimlgkaaGreatDoorTl
import Derived.Test.YtpokdihnimlgkaaGreatDoorTie
import Derived.Test.YtpokdihnimlgkaaGreatDoorCards
namespace Go.Proofs.YtpokdihnimlgkaaGreatDoor
open Go.ChangeShapes Go.WideShapes Go.ChangeAt Go.RowKit

set_option maxRecDepth 100000 in
theorem labelTells_lifted (os : Os) (started : os.Started) (H : Type) (enc : TypeId × Value → H) (F : Stop.Interp) :
    ReturnsInHanded {} Tryz.checked os 3 .any ((OpenSpec.ofChange Rows.labelTellsSpec).preRow enc Tryz.prog Tryz.f3 Rows.labelTellsRow.domain false Rows.labelTellsRow.laid) (((OpenSpec.ofChange Rows.labelTellsSpec).at F).post enc Tryz.prog Tryz.f3 false true false false) := by
  refine returnsInHanded_of_row (C := Tryz.checked) (s := OpenSpec.ofChange Rows.labelTellsSpec) Tryz.own started (by kernel_rfl) Tryz.func3
    (witness_laid (f := 3) (fn := Tryz.f3) (s := Rows.labelTellsSpec) (laid := laidList) #[.slice none 0 0, .string ⟨#[]⟩, .int .i64 0]
      (World.shaped_of_ZipB (by kernel_rfl) (by kernel_rfl)) (by kernel_rfl) (by kernel_rfl) (by kernel_rfl) (laid_met _)) ?_
  intro W base args ds gs before hval0 hW _ _ hwt hL hsh _
  have hval : ∀ (j : Nat) t v, Tryz.f3.params[j]? = some t → args[j]? = some v → Value.okWide Tryz.prog W .any base t v := hval0
  have hW' := hW
  obtain ⟨p, q, hA0, hV, rfl, _, _⟩ := hW
  have hA : DataW.TrodAll enc Tryz.prog W 0 (fun _ => true) true Tryz.f3.params.toList args.toList ds p := hA0
  have hwt2 : (DataW.weightsEach Tryz.prog (Tryz.f3.params.toList ++ (OpenSpec.ofChange Rows.labelTellsSpec).bare.plain.varTypes Tryz.prog) (ds ++ gs)).all (· ≤ reachBytes) = true := hwt
  rw [Tryz.params3] at hA hval hwt2
  obtain ⟨v0, v1, v2, d0, d1, d2, p0, p1, p2, rfl, rfl, rfl, h0, h1, h2⟩ := trodAll_three hA
  obtain ⟨rfl, rfl⟩ := trodVars_none hV
  have he : Env W := env_of hsh hL
  obtain ⟨A, c, l, rfl, hnil, hlm, hxm, hwd, hE, _⟩ := open_ents h0 (okWide_slice Tryz.underlying23 (hval 0 23 v0 rfl rfl))
  obtain ⟨s1, rfl, rfl, rfl, hs1⟩ := Go.ChangeMaps.open_string Tryz.underlying9 (hval 1 9 v1 rfl rfl) h1
  obtain ⟨n2, rfl, rfl, rfl, w2⟩ := open_int Tryz.underlying3 (hval 2 3 v2 rfl rfl) h2
  have hle : s1.size ≤ 281474976710656 := by
    have h4 := List.all_eq_true.1 hwt2 s1.data.toList.length (DataW.weights_mem_each (P := Tryz.prog) (j := 1) (t := 9) (d := .lit (.string s1.data.toList)) rfl rfl _ (by simp [DataW.weights]))
    have h5 : s1.data.toList.length ≤ reachBytes := by simpa using h4
    rw [Array.length_toList] at h5
    exact Nat.le_trans h5 (by decide)
  have hcall := tells_any (s := s1.data.toList) (n := n2) he hE hnil hxm hlm hwd (by rw [Array.length_toList]; exact hle)
  rw [← str_of s1] at hcall
  refine (hcall).mono fun e W' ⟨he, hb⟩ => ?_
  subst he
  have hlt0 : ∀ x ∈ p0, x.block < W.heap.size := fun x hx => hW'.lt x (by simp [hx])
  have e1 : Rows.labelTellsSpec.fn H ([d0, (.lit (.string s1.data.toList)), (.lit (.int .i64 n2))] ++ []) = { results := [.lit (.bool true)], args := [d0, (.lit (.string s1.data.toList)), (.lit (.int .i64 n2))] } := by simp [Rows.labelTellsSpec]
  refine ⟨_, rfl, _, _, _, [], p0 ++ ([] ++ []), [], hW', ?_, ?_, ?_, hb.frame _, fun h => by cases h⟩
  · exact e1 ▸ trodAll_mk1 (shut_bool Tryz.underlying4 true)
  · exact e1 ▸ trodAll_mk3 (Below.trod Tryz.laidOut (by kernel_rfl) (of_decide_eq_true (by kernel_rfl)) h0 hb hlt0) (Go.ChangeMaps.shut_string Tryz.underlying9 hs1) (shut_int Tryz.underlying3 w2)
  · exact e1 ▸ rfl

theorem labelTells_row : Rows.LabelTellsSaid :=
  OpenClaim.holds_of_cond 3 Tryz.f3 rfl rfl rfl rfl rfl rfl rfl ⟨rfl, rfl, rfl, rfl, rfl⟩ rfl rfl rfl rfl rfl (by kernel_rfl) Tryz.func3 (by kernel_rfl)
    (of_decide_eq_true (by kernel_rfl)) (by unfold Func.isWrapper; rw [if_neg (of_decide_eq_false (by kernel_rfl))]; exact ⟨rfl, rfl⟩)
    (fun os started H enc _ F => by rw [OpenClaim.pre_eq_preRow]; exact labelTells_lifted os started H enc F)

theorem labelTells_holds : Rows.LabelTellsCardSaid :=
  Claim7.holds_tied_plain_at .later [] _ _ _ _ labelTells_row (fun _ h => by cases h) (by kernel_rfl) (fun _ h => by cases h) labelTells_row_tie rfl ⟨rfl, rfl⟩ (by kernel_rfl) rfl
    (fun f fn hf hfn => by
      obtain rfl : f = 3 := Option.some.inj ((show Tryz.prog.funcNamed Rows.labelTellsRow.func = some 3 by kernel_rfl).symm.trans hf) |>.symm
      obtain rfl : fn = Tryz.f3 := (Option.some.inj (Tryz.func3.symm.trans hfn)).symm
      exact ⟨by kernel_rfl, fun j t ht => by
        rw [Tryz.params3] at ht
        have hm : t ∈ [23, 9, 3] := by simpa using Array.mem_of_getElem? ht
        have hall : ([23, 9, 3].all fun u => !Tryz.prog.wantsStandIn u) = true := by kernel_rfl
        exact (show Tryz.prog.wantsStandIn t = false by simpa using List.all_eq_true.1 hall t hm)⟩)
    (by kernel_rfl)
end Go.Proofs.YtpokdihnimlgkaaGreatDoor
