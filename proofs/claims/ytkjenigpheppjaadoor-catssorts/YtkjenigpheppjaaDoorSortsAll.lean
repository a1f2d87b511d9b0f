/- CatsSorts, the tied card: for every slice of texts the law returns true, and the argument reads afterwards as it read before. Conditions: none beyond the row's own; the library's variables that the row lists are tied to the program's text by the card (over the pruned copy of the project that the seat holds; one table of the library is pinned by the form's constant). -/
import Derived.Test.YtkjenigpheppjaaDoorP
import Derived.Test.YtkjenigpheppjaaDoorSorts
import Derived.Test.YtkjenigpheppjaaDoorT
import Derived.Test.YtkjenigpheppjaaDoorTie
import Derived.Test.YtkjenigpheppjaaDoorCards
namespace Go.Proofs.YtkjenigpheppjaaDoor
open Go.ChangeShapes Go.WideShapes Go.ChangeAt Go.RowKit

theorem weights_all_mem {H : Type} {P : Program} {e : TypeId} {d : DataW H} {n : Nat} : ∀ {l : List (DataW H)}, d ∈ l → n ∈ DataW.weights P e d → n ∈ DataW.weightsAll P e l
  | x :: r, h, hn => by
    simp only [DataW.weightsAll, List.mem_append]
    rcases List.mem_cons.1 h with rfl | h
    · exact .inl hn
    · exact .inr (weights_all_mem h hn)
theorem Tryd.bytes9 : Tryd.prog.bytesOf 9 = 16 := by kernel_rfl

/-- Each text weighs at most what the whole does, and so do they all by their number. -/
theorem texts_weight {H : Type} {d : DataW H} {l : List (List UInt8)} (hd : d = .nil ∧ l = [] ∨ ∃ sp', d = .slice (l.map fun x => .lit (.string x)) sp') (hb : ∀ n ∈ DataW.weights Tryd.prog 36 d, n ≤ 140737488351232) : (∀ x ∈ l, x.length ≤ 140737488351232) ∧ l.length ≤ 8796093022207 := by
  rcases hd with ⟨_, rfl⟩ | ⟨sp', rfl⟩
  · exact ⟨by simp, by simp⟩
  · simp only [DataW.weights, Tryd.underlying36, List.mem_cons, List.mem_append] at hb
    refine ⟨fun x hx => hb _ (.inr (.inl (weights_all_mem (d := .lit (.string x)) (List.mem_map_of_mem hx) (by simp [DataW.weights])))), ?_⟩
    have h1 := hb _ (.inl rfl)
    rw [Tryd.bytes9, List.length_map] at h1
    omega

set_option maxRecDepth 100000 in
theorem catsSorts_lifted (os : Os) (started : os.Started) (H : Type) (enc : TypeId × Value → H) (F : Stop.Interp) :
    ReturnsInHanded {} Tryd.checked os 6 .any ((OpenSpec.ofChange Rows.catsSortsSpec).preRow enc Tryd.prog Tryd.f6 Rows.catsSortsRow.domain false Rows.catsSortsRow.laid) (((OpenSpec.ofChange Rows.catsSortsSpec).at F).post enc Tryd.prog Tryd.f6 false true false false) := by
  refine returnsInHanded_of_row (C := Tryd.checked) (s := OpenSpec.ofChange Rows.catsSortsSpec) Tryd.own started (by kernel_rfl) Tryd.func6
    (witness_laid (f := 6) (fn := Tryd.f6) (s := Rows.catsSortsSpec) (laid := laidList) #[.slice none 0 0]
      (World.shaped_of_ZipB (by kernel_rfl) (by kernel_rfl)) (by kernel_rfl) (by kernel_rfl) (by kernel_rfl) (laid_met _)) ?_
  intro W base args ds gs before hval0 hW _ _ hwt hL hsh _
  have hval : ∀ (j : Nat) t v, Tryd.f6.params[j]? = some t → args[j]? = some v → Value.okWide Tryd.prog W .any base t v := hval0
  have hW' := hW
  obtain ⟨p, q, hA0, hV, rfl, _, _⟩ := hW
  have hA : DataW.TrodAll enc Tryd.prog W 0 (fun _ => true) true Tryd.f6.params.toList args.toList ds p := hA0
  have hwt2 : (DataW.weightsEach Tryd.prog (Tryd.f6.params.toList ++ (OpenSpec.ofChange Rows.catsSortsSpec).bare.plain.varTypes Tryd.prog) (ds ++ gs)).all (· ≤ reachBytes) = true := hwt
  rw [Tryd.params6] at hA hval hwt2
  obtain ⟨v0, d0, rfl, rfl, h0⟩ := trodAll_one hA
  obtain ⟨rfl, rfl⟩ := trodVars_none hV
  have he : Env W := env_of hsh hL
  obtain ⟨A, c, l, rfl, hlm, hxm, hS, hd⟩ := open_texts h0 (okWide_slice Tryd.underlying36 (hval 0 36 v0 rfl rfl))
  have hw : ∀ n ∈ DataW.weights Tryd.prog 36 d0, n ≤ 140737488351232 := fun n hn => by
    have h4 := List.all_eq_true.1 hwt2 n (DataW.weights_mem_each (P := Tryd.prog) (j := 0) (t := 36) (d := d0) rfl rfl n hn)
    exact Nat.le_trans (by simpa using h4) (show reachBytes ≤ 140737488351232 by decide)
  have hxl := texts_weight hd hw
  refine (sorts_any (c := c) (fun W h => first_true h) (fun W A c l h1 h2 h3 h4 => sort_any h1 h2 h3 h4) he hS hxl.1 hxl.2).mono fun e W' ⟨he, hb⟩ => ?_
  subst he
  have hlt0 : ∀ x ∈ p, x.block < W.heap.size := fun x hx => hW'.lt x (by simp [hx])
  have e1 : Rows.catsSortsSpec.fn H ([d0] ++ []) = { results := [.lit (.bool true)], args := [d0] } := by simp [Rows.catsSortsSpec]
  refine ⟨_, rfl, _, _, _, [], p, [], hW', ?_, ?_, ?_, hb.frame _, fun h => by cases h⟩
  · exact e1 ▸ trodAll_mk1 (shut_bool Tryd.underlying4 true)
  · exact e1 ▸ trodAll_mk1 (Below.trod Tryd.laidOut (by kernel_rfl) (of_decide_eq_true (by kernel_rfl)) h0 hb hlt0)
  · exact e1 ▸ rfl

theorem catsSorts_row : Rows.CatsSortsSaid :=
  OpenClaim.holds_of_cond 6 Tryd.f6 rfl rfl rfl rfl rfl rfl rfl ⟨rfl, rfl, rfl, rfl, rfl⟩ rfl rfl rfl rfl rfl (by kernel_rfl) Tryd.func6 (by kernel_rfl)
    (of_decide_eq_true (by kernel_rfl)) (by unfold Func.isWrapper; rw [if_neg (of_decide_eq_false (by kernel_rfl))]; exact ⟨rfl, rfl⟩)
    (fun os started H enc _ F => by rw [OpenClaim.pre_eq_preRow]; exact catsSorts_lifted os started H enc F)

theorem catsSorts_holds : Rows.CatsSortsCardSaid :=
  Claim7.holds_tied_plain_at .later [] _ _ _ _ catsSorts_row (fun _ h => by cases h) (by kernel_rfl) (fun _ h => by cases h) catsSorts_row_tie rfl ⟨rfl, rfl⟩ (by kernel_rfl) rfl
    (fun f fn hf hfn => by
      obtain rfl : f = 6 := Option.some.inj ((show Tryd.prog.funcNamed Rows.catsSortsRow.func = some 6 by kernel_rfl).symm.trans hf) |>.symm
      obtain rfl : fn = Tryd.f6 := (Option.some.inj (Tryd.func6.symm.trans hfn)).symm
      exact ⟨by kernel_rfl, fun j t ht => by
        rw [Tryd.params6] at ht
        have hm : t ∈ [36] := by simpa using Array.mem_of_getElem? ht
        have hall : ([36].all fun u => !Tryd.prog.wantsStandIn u) = true := by kernel_rfl
        exact (show Tryd.prog.wantsStandIn t = false by simpa using List.all_eq_true.1 hall t hm)⟩)
    (by kernel_rfl)
end Go.Proofs.YtkjenigpheppjaaDoor
