/- CrcSeals, the tied card: for every slice of bytes the law returns true, and the argument reads afterwards as it read before. Conditions: none beyond the row's own; the table crc.steps, which the row lists, is tied to the program's text by the card (over the pruned copy of the project that the seat holds). -/
import Derived.Test.YthkmgfompoebdaaDoorP
import Derived.Test.YthkmgfompoebdaaDoorI
import Derived.Test.YthkmgfompoebdaaDoorTie
import Derived.Test.YthkmgfompoebdaaDoorCards
import Derived.SevenTiedAt
import Derived.Stop.Joined
namespace Go.Proofs.YthkmgfompoebdaaDoor
open Go.ChangeShapes Go.WideShapes Go.ChangeAt Go.RowKit

theorem seals_any {w : World} {A : Option Addr} {c : Nat} {l : List Nat} (ht : TabIn w) (hl : Bts w w.heap.size A l) (hs : Sml l) (hc : l.length ≤ c) (hm : c ≤ maxLen) (hA : A = none → c = 0) :
    Calls Tryd.prog 4 #[.slice A l.length c] w (Fine w) := by
  by_cases h0 : 2000 < l.length
  · exact seals_big ht h0 (by omega)
  by_cases h4 : l.length < 4
  · exact seals_few ht hl hs h4 hA
  · obtain ⟨p, q, rfl, hq⟩ : ∃ p q, l = p ++ q ∧ q.length = 4 := ⟨l.take (l.length - 4), l.drop (l.length - 4), by simp, by simp; omega⟩
    rw [List.length_append, hq] at hc h0 ⊢
    exact seals_many ht hl hs hq (by omega) hc

set_option maxRecDepth 100000 in
theorem seals_lifted (os : Os) (started : os.Started) (H : Type) (enc : TypeId × Value → H) :
    ReturnsInHanded {} Tryd.checked os 4 .any (fun w args => (Rows.crcSealsSpec.pre enc Tryd.prog Tryd.f4 Rows.crcSealsRow.domain false w args ∧ laidMetH Tryd.prog Rows.crcSealsRow.laid w) ∧ sizedMet enc Tryd.prog Tryd.f4 (OpenSpec.ofChange Rows.crcSealsSpec) false w args)
      (Rows.crcSealsSpec.post enc Tryd.prog Tryd.f4 false true false false) := by
  refine returnsInHanded_of_change_and (C := Tryd.checked) (X := fun w _ => laidMetH Tryd.prog Rows.crcSealsRow.laid w) (fun _ _ _ hh h => h.of_heap hh) Tryd.own started (by kernel_rfl) Tryd.func4
    (ChangeSpec.witness_shaped (enc := enc) (C := Tryd.checked) (os := os) (X := fun w _ => laidMetH Tryd.prog Rows.crcSealsRow.laid w) false (World.laidAll Tryd.prog os Rows.crcSealsRow.laid) #[.slice none 0 0] 8 (World.laidAll_os _ _ _)
      (World.shaped_of_ZipB (by kernel_rfl) (by kernel_rfl)) (by kernel_rfl) (by kernel_rfl) (by kernel_rfl)
      (by rw [MakeChecks.laidMetH_plain _ _ _ (by kernel_rfl)]; exact laidMet_laidAll _ (by kernel_rfl) (by kernel_rfl))) ?_
  intro W base args ds gs before hval0 hW hc _ hL _
  have hval : ∀ (j : Nat) t v, Tryd.f4.params[j]? = some t → args[j]? = some v → Value.okWide Tryd.prog W .any base t v := hval0
  have hW' := hW
  obtain ⟨p, q, hA0, hV, rfl, _, _⟩ := hW
  have hA : DataW.TrodAll enc Tryd.prog W 0 (fun _ => true) true Tryd.f4.params.toList args.toList ds p := hA0
  rw [Tryd.params4] at hA hval
  obtain ⟨v0, d0, rfl, rfl, h0⟩ := trodAll_one hA
  obtain ⟨rfl, rfl⟩ := trodVars_none hV
  have ht : TabIn W := tab_of_laid hL
  obtain ⟨A, n, c, rfl, hnc, hcm, hAc, l, rfl, hs, hl⟩ := open_bts h0 (okWide_slice Tryd.underlying28 (hval 0 28 v0 rfl rfl))
  refine (seals_any ht hl hs hnc hcm hAc).mono fun e W' ⟨he, hb⟩ => ?_
  subst he
  have hlt : ∀ x ∈ p, x.block < W.heap.size := fun x hx => hW'.lt x (by simp [hx])
  have e1 : Rows.crcSealsSpec.fn H ([d0] ++ []) = { results := [.lit (.bool true)], args := [d0] } := by simp [Rows.crcSealsSpec]
  refine ⟨_, rfl, _, _, _, [], p, [], hW', ?_, ?_, ?_, hb.frame _, fun h => by cases h⟩
  · rw [e1]; exact trodAll_mk1 (shut_bool Tryd.underlying4 true)
  · rw [e1]; exact trodAll_mk1 (Below.trod Tryd.laidOut (by kernel_rfl) (of_decide_eq_true (by kernel_rfl)) h0 hb hlt)
  · rw [e1]; rfl

theorem seals_row : Rows.CrcSealsSaid :=
  OpenClaim.holds_of_wide 4 Tryd.f4 rfl rfl rfl rfl rfl rfl rfl ⟨rfl, rfl, rfl, rfl, rfl⟩ rfl rfl rfl rfl rfl (by kernel_rfl) Tryd.func4 (by kernel_rfl)
    (of_decide_eq_true (by kernel_rfl)) (by unfold Func.isWrapper; rw [if_neg (of_decide_eq_false (by kernel_rfl))]; exact ⟨rfl, rfl⟩)
    (fun os started H enc _ => seals_lifted os started H enc)

theorem crcSeals_holds : Rows.CrcSealsCardSaid :=
  Claim7.holds_tied_plain_at .later [] [.data] true (true, "15b352b7ad3c7f769c482648bdefd7d13c208606656d1a91484ad2226776da8e") false
    seals_row (fun _ h => by cases h) (by kernel_rfl) (fun _ h => by cases h) crcSeals_row_tie rfl ⟨rfl, rfl⟩ (by kernel_rfl) rfl
    (fun f fn hf hfn => by
      obtain rfl : f = 4 := Option.some.inj ((show Tryd.prog.funcNamed Rows.crcSealsRow.func = some 4 by kernel_rfl).symm.trans hf) |>.symm
      obtain rfl : fn = Tryd.f4 := (Option.some.inj (Tryd.func4.symm.trans hfn)).symm
      exact ⟨by kernel_rfl, fun j t ht => by
        rw [Tryd.params4] at ht
        have hm : t ∈ [28] := by simpa using Array.mem_of_getElem? ht
        have hall : ([28].all fun u => !Tryd.prog.wantsStandIn u) = true := by kernel_rfl
        exact (show Tryd.prog.wantsStandIn t = false by simpa using List.all_eq_true.1 hall t hm)⟩)
    (by kernel_rfl)
end Go.Proofs.YthkmgfompoebdaaDoor
