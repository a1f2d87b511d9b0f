/- CatsSorts, the second form's tied card: for every slice of texts of bulk at most 1048576 the law returns true, and the argument reads afterwards as it read before. Conditions: that bound, and none beyond the row's own; the library's variables that the row lists are tied to the program's text by the card (over the pruned copy of the project that the seat holds; one table of the library is pinned by the form's constant). -/
import Derived.Test.YtkjenigpheppjaaDoorP
import Derived.Test.YtkjenigpheppjaaDoorSorts
import Derived.Test.YtkjenigpheppjaaDoorT
import Derived.Test.YtkjenigpheppjaaDoorTie
import Derived.Test.YtkjenigpheppjaaDoorCards
namespace Go.Proofs.YtkjenigpheppjaaDoor
open Go.ChangeShapes Go.WideShapes Go.ChangeAt Go.RowKit

theorem part_le {H : Type} {d : DataW H} {l : List (DataW H)} (h : d ∈ l) : Rows.uptoBulk d ≤ Rows.uptoBulkAll l := by
  induction l with
  | nil => cases h
  | cons x r ih =>
    simp only [Rows.uptoBulkAll]
    rcases List.mem_cons.1 h with e | e
    · subst e; omega
    · have := ih e; omega
theorem bulk_tot {H : Type} : ∀ l : List (List UInt8), Rows.uptoBulkAll (l.map fun x => (.lit (.string x) : DataW H)) = tot l
  | [] => rfl
  | x :: r => by
    rw [List.map_cons]
    simp only [Rows.uptoBulkAll, Rows.uptoBulk]
    rw [bulk_tot r]
    rfl

theorem reads_none (os : Os) {H : Type} (enc : TypeId × Value → H) : ∃ places, DataW.whole enc Tryd.prog ((World.laidAll Tryd.prog os laidList).forCall (fun _ _ => 0) ⟨#[], #[.slice none 0 0], []⟩).memory Tryd.f6.params.toList Rows.catsSortsSpec.vars false #[Value.slice none 0 0].toList 8 = some ([.nil], [], places) :=
  ⟨[], by kernel_rfl⟩

set_option maxRecDepth 100000 in
theorem catsSorts_lifted (os : Os) (started : os.Started) (H : Type) (enc : TypeId × Value → H) (F : Stop.Interp) :
    ReturnsInHanded {} Tryd.checked os 6 .any ((Rows.OpenSpec.upto Rows.catsSortsSpec).preRow enc Tryd.prog Tryd.f6 Rows.catsSortsUptoRow.domain false Rows.catsSortsUptoRow.laid) (((Rows.OpenSpec.upto Rows.catsSortsSpec).at F).post enc Tryd.prog Tryd.f6 false true false false) := by
  obtain ⟨places, hx⟩ := reads_none os enc
  have hok : Input.okWideB Tryd.prog ((World.laidAll Tryd.prog os laidList).forCall (fun _ _ => 0) ⟨#[], #[.slice none 0 0], []⟩) 6 ⟨#[], #[.slice none 0 0], []⟩ = true := by kernel_rfl
  refine returnsInHanded_of_row (C := Tryd.checked) (s := Rows.OpenSpec.upto Rows.catsSortsSpec) Tryd.own started (by kernel_rfl) Tryd.func6
    ⟨World.laidAll Tryd.prog os laidList, fun _ _ => 0, ⟨#[], #[.slice none 0 0], []⟩, World.laidAll_os _ _ _, World.shaped_of_ZipB (by kernel_rfl) (by kernel_rfl), (Input.okWide_of_okWideB (base := 0) hok).1, (Input.okWide_of_okWideB hok).2,
      OpenSpec.preRow_of_cond 8 hx (by kernel_rfl) (fun k hk => by cases hk; kernel_rfl) (by kernel_rfl) (laid_met _), by
        simp only [Assume.holds]
        exact ⟨by simp, by simp, by simp, by simp, by simp⟩⟩ ?_
  intro W base args ds gs before hval0 hW _ hcond _ hL hsh _
  have hk := hcond _ rfl
  have hval : ∀ (j : Nat) t v, Tryd.f6.params[j]? = some t → args[j]? = some v → Value.okWide Tryd.prog W .any base t v := hval0
  have hW' := hW
  obtain ⟨p, q, hA0, hV, rfl, _, _⟩ := hW
  have hA : DataW.TrodAll enc Tryd.prog W 0 (fun _ => true) true Tryd.f6.params.toList args.toList ds p := hA0
  rw [Tryd.params6] at hA hval
  obtain ⟨v0, d0, rfl, rfl, h0⟩ := trodAll_one hA
  obtain ⟨rfl, rfl⟩ := trodVars_none hV
  have he : Env W := env_of hsh hL
  have hbulk : Rows.uptoBulkAll ([d0] ++ []) ≤ 1048576 := of_decide_eq_true hk
  have hb0 : Rows.uptoBulk d0 ≤ 1048576 := Nat.le_trans (part_le (by simp)) hbulk
  obtain ⟨A, c, l, rfl, hlm, hxm, hS, hd⟩ := open_texts h0 (okWide_slice Tryd.underlying36 (hval 0 36 v0 rfl rfl))
  have ht : tot l ≤ 1048576 := by
    rcases hd with ⟨_, rfl⟩ | ⟨sp', rfl⟩
    · simp [tot]
    · simp only [Rows.uptoBulk] at hb0
      rw [bulk_tot] at hb0
      omega
  refine (sorts_any (c := c) (fun W h => first_true h) (fun W A c l h1 h2 h3 h4 => sort_any h1 h2 h3 h4) he hS ht).mono fun e W' ⟨he, hb⟩ => ?_
  subst he
  have hlt0 : ∀ x ∈ p, x.block < W.heap.size := fun x hx => hW'.lt x (by simp [hx])
  have e1 : Rows.catsSortsSpec.fn H ([d0] ++ []) = { results := [.lit (.bool true)], args := [d0] } := by simp [Rows.catsSortsSpec]
  refine ⟨_, rfl, _, _, _, [], p, [], hW', ?_, ?_, ?_, hb.frame _, fun h => by cases h⟩
  · exact e1 ▸ trodAll_mk1 (shut_bool Tryd.underlying4 true)
  · exact e1 ▸ trodAll_mk1 (Below.trod Tryd.laidOut (by kernel_rfl) (of_decide_eq_true (by kernel_rfl)) h0 hb hlt0)
  · exact e1 ▸ rfl

theorem catsSorts_row : Rows.CatsSortsUptoSaid :=
  OpenClaim.holds_of_cond 6 Tryd.f6 rfl rfl rfl rfl rfl rfl rfl ⟨rfl, rfl, rfl, rfl, rfl⟩ rfl rfl rfl rfl rfl (by kernel_rfl) Tryd.func6 (by kernel_rfl)
    (of_decide_eq_true (by kernel_rfl)) (by unfold Func.isWrapper; rw [if_neg (of_decide_eq_false (by kernel_rfl))]; exact ⟨rfl, rfl⟩)
    (fun os started H enc _ F => by rw [OpenClaim.pre_eq_preRow]; exact catsSorts_lifted os started H enc F)

theorem catsSorts_holds : Rows.CatsSortsUptoCardSaid :=
  Claim7.holds_tied_plain_at .later [] _ _ _ _ catsSorts_row (fun _ h => by cases h) (by kernel_rfl) (fun _ h => by cases h) catsSortsUpto_row_tie rfl ⟨rfl, rfl⟩ (by kernel_rfl) rfl
    (fun f fn hf hfn => by
      obtain rfl : f = 6 := Option.some.inj ((show Tryd.prog.funcNamed Rows.catsSortsUptoRow.func = some 6 by kernel_rfl).symm.trans hf) |>.symm
      obtain rfl : fn = Tryd.f6 := (Option.some.inj (Tryd.func6.symm.trans hfn)).symm
      exact ⟨by kernel_rfl, fun j t ht => by
        rw [Tryd.params6] at ht
        have hm : t ∈ [36] := by simpa using Array.mem_of_getElem? ht
        have hall : ([36].all fun u => !Tryd.prog.wantsStandIn u) = true := by kernel_rfl
        exact (show Tryd.prog.wantsStandIn t = false by simpa using List.all_eq_true.1 hall t hm)⟩)
    (by kernel_rfl)
end Go.Proofs.YtkjenigpheppjaaDoor
