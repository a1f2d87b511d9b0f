/- LabelOrder, the tied card: for every three labels the law returns true, and each argument reads afterwards as it read before. Conditions: none beyond the row's own; the library's variables that the row lists are tied to the program's text by the card (over the pruned copy of the project that the seat holds; one table of the library is pinned by the form's constant). -/
import Derived.Test.YtpokdihnimlgkaaGreatDoorP
import Derived.Test.YtpokdihnimlgkaaGreatDoorOd
import Derived.Test.YtpokdihnimlgkaaGreatDoorTie
import Derived.Test.YtpokdihnimlgkaaGreatDoorCards
namespace Go.Proofs.YtpokdihnimlgkaaGreatDoor
open Go.ChangeShapes Go.WideShapes Go.ChangeAt Go.RowKit

theorem weights_all_mem {H : Type} {P : Program} {e : TypeId} {d : DataW H} {n : Nat} : ∀ {l : List (DataW H)}, d ∈ l → n ∈ DataW.weights P e d → n ∈ DataW.weightsAll P e l
  | x :: r, h, hn => by
    simp only [DataW.weightsAll, List.mem_append]
    rcases List.mem_cons.1 h with rfl | h
    · exact .inl hn
    · exact .inr (weights_all_mem h hn)

/-- Each text of a label weighs at most what the whole does. -/
theorem ents_weight {H : Type} {d : DataW H} {l : List Ent} (hd : d = .nil ∧ l = [] ∨ ∃ sp', d = .slice (l.map entData) sp') {B : Nat} (hb : ∀ n ∈ DataW.weights Tryz.prog 23 d, n ≤ B) : ∀ e ∈ l, e.1.length ≤ B := fun e he => by
  rcases hd with ⟨_, rfl⟩ | ⟨sp', rfl⟩
  · cases he
  · refine hb _ ?_
    simp only [DataW.weights, Tryz.underlying23, List.mem_cons, List.mem_append]
    refine .inr (.inl (weights_all_mem (d := entData e) (List.mem_map_of_mem he) ?_))
    simp [entData, DataW.weights, Tryz.underlying33, DataW.weightsEach]

set_option maxRecDepth 100000 in
theorem labelOrder_lifted (os : Os) (started : os.Started) (H : Type) (enc : TypeId × Value → H) (F : Stop.Interp) :
    ReturnsInHanded {} Tryz.checked os 5 .any ((OpenSpec.ofChange Rows.labelOrderSpec).preRow enc Tryz.prog Tryz.f5 Rows.labelOrderRow.domain false Rows.labelOrderRow.laid) (((OpenSpec.ofChange Rows.labelOrderSpec).at F).post enc Tryz.prog Tryz.f5 false true false false) := by
  refine returnsInHanded_of_row (C := Tryz.checked) (s := OpenSpec.ofChange Rows.labelOrderSpec) Tryz.own started (by kernel_rfl) Tryz.func5
    (witness_laid (f := 5) (fn := Tryz.f5) (s := Rows.labelOrderSpec) (laid := laidList) #[.slice none 0 0, .slice none 0 0, .slice none 0 0]
      (World.shaped_of_ZipB (by kernel_rfl) (by kernel_rfl)) (by kernel_rfl) (by kernel_rfl) (by kernel_rfl) (laid_met _)) ?_
  intro W base args ds gs before hval0 hW _ _ hwt hL hsh _
  have hval : ∀ (j : Nat) t v, Tryz.f5.params[j]? = some t → args[j]? = some v → Value.okWide Tryz.prog W .any base t v := hval0
  have hW' := hW
  obtain ⟨p, q, hA0, hV, rfl, _, _⟩ := hW
  have hA : DataW.TrodAll enc Tryz.prog W 0 (fun _ => true) true Tryz.f5.params.toList args.toList ds p := hA0
  have hwt2 : (DataW.weightsEach Tryz.prog (Tryz.f5.params.toList ++ (OpenSpec.ofChange Rows.labelOrderSpec).bare.plain.varTypes Tryz.prog) (ds ++ gs)).all (· ≤ reachBytes) = true := hwt
  rw [Tryz.params5] at hA hval hwt2
  obtain ⟨v0, v1, v2, d0, d1, d2, p0, p1, p2, rfl, rfl, rfl, h0, h1, h2⟩ := trodAll_three hA
  obtain ⟨rfl, rfl⟩ := trodVars_none hV
  have he : Env W := env_of hsh hL
  obtain ⟨A0, c0, l0, rfl, n0, m0, _, _, E0, D0⟩ := open_ents h0 (okWide_slice Tryz.underlying23 (hval 0 23 v0 rfl rfl))
  obtain ⟨A1, c1, l1, rfl, n1, m1, _, _, E1, D1⟩ := open_ents h1 (okWide_slice Tryz.underlying23 (hval 1 23 v1 rfl rfl))
  obtain ⟨A2, c2, l2, rfl, n2, m2, _, _, E2, D2⟩ := open_ents h2 (okWide_slice Tryz.underlying23 (hval 2 23 v2 rfl rfl))
  have hw0 : ∀ n ∈ DataW.weights Tryz.prog 23 d0, n ≤ 140737488351232 := fun n hn => by
    have h4 := List.all_eq_true.1 hwt2 n (DataW.weights_mem_each (P := Tryz.prog) (j := 0) (t := 23) (d := d0) rfl rfl n hn)
    exact Nat.le_trans (by simpa using h4) (show reachBytes ≤ 140737488351232 by decide)
  have hw1 : ∀ n ∈ DataW.weights Tryz.prog 23 d1, n ≤ 140737488351232 := fun n hn => by
    have h4 := List.all_eq_true.1 hwt2 n (DataW.weights_mem_each (P := Tryz.prog) (j := 1) (t := 23) (d := d1) rfl rfl n hn)
    exact Nat.le_trans (by simpa using h4) (show reachBytes ≤ 140737488351232 by decide)
  have hw2 : ∀ n ∈ DataW.weights Tryz.prog 23 d2, n ≤ 140737488351232 := fun n hn => by
    have h4 := List.all_eq_true.1 hwt2 n (DataW.weights_mem_each (P := Tryz.prog) (j := 2) (t := 23) (d := d2) rfl rfl n hn)
    exact Nat.le_trans (by simpa using h4) (show reachBytes ≤ 140737488351232 by decide)
  have hcall := order_any he ⟨E0, n0, ents_weight D0 hw0, m0⟩ ⟨E1, n1, ents_weight D1 hw1, m1⟩ ⟨E2, n2, ents_weight D2 hw2, m2⟩
  refine hcall.mono fun e W' ⟨he, hb⟩ => ?_
  subst he
  have hlt0 : ∀ x ∈ p0, x.block < W.heap.size := fun x hx => hW'.lt x (by simp [hx])
  have hlt1 : ∀ x ∈ p1, x.block < W.heap.size := fun x hx => hW'.lt x (by simp [hx])
  have hlt2 : ∀ x ∈ p2, x.block < W.heap.size := fun x hx => hW'.lt x (by simp [hx])
  have e1 : Rows.labelOrderSpec.fn H ([d0, d1, d2] ++ []) = { results := [.lit (.bool true)], args := [d0, d1, d2] } := by simp [Rows.labelOrderSpec]
  refine ⟨_, rfl, _, _, _, [], p0 ++ (p1 ++ p2), [], hW', ?_, ?_, ?_, hb.frame _, fun h => by cases h⟩
  · exact e1 ▸ trodAll_mk1 (shut_bool Tryz.underlying4 true)
  · exact e1 ▸ trodAll_mk3 (Below.trod Tryz.laidOut (by kernel_rfl) (of_decide_eq_true (by kernel_rfl)) h0 hb hlt0) (Below.trod Tryz.laidOut (by kernel_rfl) (of_decide_eq_true (by kernel_rfl)) h1 hb hlt1) (Below.trod Tryz.laidOut (by kernel_rfl) (of_decide_eq_true (by kernel_rfl)) h2 hb hlt2)
  · exact e1 ▸ rfl

theorem labelOrder_row : Rows.LabelOrderSaid :=
  OpenClaim.holds_of_cond 5 Tryz.f5 rfl rfl rfl rfl rfl rfl rfl ⟨rfl, rfl, rfl, rfl, rfl⟩ rfl rfl rfl rfl rfl (by kernel_rfl) Tryz.func5 (by kernel_rfl)
    (of_decide_eq_true (by kernel_rfl)) (by unfold Func.isWrapper; rw [if_neg (of_decide_eq_false (by kernel_rfl))]; exact ⟨rfl, rfl⟩)
    (fun os started H enc _ F => by rw [OpenClaim.pre_eq_preRow]; exact labelOrder_lifted os started H enc F)

theorem labelOrder_holds : Rows.LabelOrderCardSaid :=
  Claim7.holds_tied_plain_at .later [] _ _ _ _ labelOrder_row (fun _ h => by cases h) (by kernel_rfl) (fun _ h => by cases h) labelOrder_row_tie rfl ⟨rfl, rfl⟩ (by kernel_rfl) rfl
    (fun f fn hf hfn => by
      obtain rfl : f = 5 := Option.some.inj ((show Tryz.prog.funcNamed Rows.labelOrderRow.func = some 5 by kernel_rfl).symm.trans hf) |>.symm
      obtain rfl : fn = Tryz.f5 := (Option.some.inj (Tryz.func5.symm.trans hfn)).symm
      exact ⟨by kernel_rfl, fun j t ht => by
        rw [Tryz.params5] at ht
        have hm : t ∈ [23, 23, 23] := by simpa using Array.mem_of_getElem? ht
        have hall : ([23, 23, 23].all fun u => !Tryz.prog.wantsStandIn u) = true := by kernel_rfl
        exact (show Tryz.prog.wantsStandIn t = false by simpa using List.all_eq_true.1 hall t hm)⟩)
    (by kernel_rfl)
end Go.Proofs.YtpokdihnimlgkaaGreatDoor
