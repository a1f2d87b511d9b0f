/- CatsHold, the tied card: for every slice of ints, every int and every three texts the law returns true, and each argument reads afterwards as it read before. Conditions: none beyond the row's own; the library's variables that the row lists are tied to the program's text by the card (over the pruned copy of the project that the seat holds; one table of the library is pinned by the form's constant). -/
import Derived.Test.YtkjenigpheppjaaDoorP
import Derived.Test.YtkjenigpheppjaaDoorX
import Derived.Test.YtkjenigpheppjaaDoorT
import Derived.Test.YtkjenigpheppjaaDoorTie
import Derived.Test.YtkjenigpheppjaaDoorCards
namespace Go.Proofs.YtkjenigpheppjaaDoor
open Go.ChangeShapes Go.WideShapes Go.ChangeAt Go.RowKit

theorem Tryd.cells40 : Tryd.prog.cellsOf 40 = 3 := by kernel_rfl

set_option maxRecDepth 100000 in
/-- An array of three strings that came in, opened. -/
theorem open_triple {H : Type} {enc : TypeId × Value → H} {W : World} {base b0 : Nat} {sp : Nat → Bool} {held : Bool} {v : Value} {d : DataW H} {p : List MemPlace}
    (h : DataW.Trod enc Tryd.prog W base sp held 40 v d p) (hv : Value.okWide Tryd.prog W .any b0 40 v) : ∃ a b c : List UInt8, v = .agg #[.string (str a), .string (str b), .string (str c)] ∧ d = .agg [.lit (.string a), .lit (.string b), .lit (.string c)] := by
  simp only [Value.okWide, Tryd.underlying40] at hv
  obtain ⟨cs, rfl, hsz, _⟩ := hv
  rw [Tryd.cells40] at hsz
  obtain ⟨c0, c1, c2, rfl⟩ : ∃ c0 c1 c2, cs = #[c0, c1, c2] := by
    obtain ⟨l⟩ := cs
    match l, hsz with
    | [c0, c1, c2], _ => exact ⟨c0, c1, c2, rfl⟩
  obtain ⟨fuel, hf⟩ := h
  obtain ⟨xs, m, _, hx, _, hl, hel⟩ := DataW.trod_array Tryd.underlying40 hf
  obtain ⟨y0, y1, y2, rfl⟩ : ∃ y0 y1 y2, xs = [y0, y1, y2] := by
    match xs, hl with
    | [y0, y1, y2], _ => exact ⟨y0, y1, y2, rfl⟩
  have h0 := hel 0 (by omega)
  have h1 := hel 1 (by omega)
  have h2 := hel 2 (by omega)
  rw [Tryd.cells9] at h0 h1 h2
  obtain ⟨s0, e0, f0, _⟩ := DataW.trod_string (x := y0) Tryd.underlying9 h0
  obtain ⟨s1, e1, f1, _⟩ := DataW.trod_string (x := y1) Tryd.underlying9 h1
  obtain ⟨s2, e2, f2, _⟩ := DataW.trod_string (x := y2) Tryd.underlying9 h2
  simp [Value.cells] at e0 e1 e2
  refine ⟨s0.data.toList, s1.data.toList, s2.data.toList, ?_, ?_⟩
  · rw [e0, e1, e2, ← str_of, ← str_of, ← str_of]
  · rw [(Prod.mk.inj hx).1, f0, f1, f2]
    rfl

set_option maxRecDepth 100000 in
theorem catsHold_lifted (os : Os) (started : os.Started) (H : Type) (enc : TypeId × Value → H) (F : Stop.Interp) :
    ReturnsInHanded {} Tryd.checked os 5 .any ((OpenSpec.ofChange Rows.catsHoldSpec).preRow enc Tryd.prog Tryd.f5 Rows.catsHoldRow.domain false Rows.catsHoldRow.laid) (((OpenSpec.ofChange Rows.catsHoldSpec).at F).post enc Tryd.prog Tryd.f5 false true false false) := by
  refine returnsInHanded_of_row (C := Tryd.checked) (s := OpenSpec.ofChange Rows.catsHoldSpec) Tryd.own started (by kernel_rfl) Tryd.func5
    (witness_laid (f := 5) (fn := Tryd.f5) (s := Rows.catsHoldSpec) (laid := laidList) #[.slice none 0 0, .int .i64 0, .agg #[.string ⟨#[]⟩, .string ⟨#[]⟩, .string ⟨#[]⟩]]
      (World.shaped_of_ZipB (by kernel_rfl) (by kernel_rfl)) (by kernel_rfl) (by kernel_rfl) (by kernel_rfl) (laid_met _)) ?_
  intro W base args ds gs before hval0 hW _ _ hwt hL hsh _
  have hval : ∀ (j : Nat) t v, Tryd.f5.params[j]? = some t → args[j]? = some v → Value.okWide Tryd.prog W .any base t v := hval0
  have hW' := hW
  obtain ⟨p, q, hA0, hV, rfl, _, _⟩ := hW
  have hA : DataW.TrodAll enc Tryd.prog W 0 (fun _ => true) true Tryd.f5.params.toList args.toList ds p := hA0
  have hwt2 : (DataW.weightsEach Tryd.prog (Tryd.f5.params.toList ++ (OpenSpec.ofChange Rows.catsHoldSpec).bare.plain.varTypes Tryd.prog) (ds ++ gs)).all (· ≤ reachBytes) = true := hwt
  rw [Tryd.params5] at hA hval hwt2
  obtain ⟨v0, v1, v2, d0, d1, d2, p0, p1, p2, rfl, rfl, rfl, h0, h1, h2⟩ := trodAll_three hA
  obtain ⟨rfl, rfl⟩ := trodVars_none hV
  have he : Env W := env_of hsh hL
  obtain ⟨A, c, zs, rfl, hzm, hI⟩ := open_nums h0 (okWide_slice Tryd.underlying22 (hval 0 22 v0 rfl rfl))
  obtain ⟨n1, rfl, rfl, rfl, w1⟩ := open_int Tryd.underlying3 (hval 1 3 v1 rfl rfl) h1
  obtain ⟨a, b, c3, rfl, hd⟩ := open_triple h2 (hval 2 40 v2 rfl rfl)
  have hle : ∀ x ∈ [a, b, c3], x.length ≤ 140737488351232 := fun x hx => by
    have h3 : ∀ n ∈ DataW.weights Tryd.prog 40 d2, n ≤ reachBytes := fun n hn => by
      have h4 := List.all_eq_true.1 hwt2 n (DataW.weights_mem_each (P := Tryd.prog) (j := 2) (t := 40) (d := d2) rfl rfl n hn)
      simpa using h4
    have h5 : x.length ∈ DataW.weights Tryd.prog 40 d2 := by
      rw [hd]
      simp only [DataW.weights, Tryd.underlying40, DataW.weightsAll]
      simp at hx
      rcases hx with rfl | rfl | rfl <;> simp
    exact h3 _ h5
  refine (hold_any (c := c) (n := n1) (fun W h => first_true h) he hI hzm (hle a (by simp)) (hle b (by simp)) (hle c3 (by simp))).mono fun e W' ⟨he, hb⟩ => ?_
  subst he
  have hlt0 : ∀ x ∈ p0, x.block < W.heap.size := fun x hx => hW'.lt x (by simp [hx])
  have hlt2 : ∀ x ∈ p2, x.block < W.heap.size := fun x hx => hW'.lt x (by simp [hx])
  have e1 : Rows.catsHoldSpec.fn H ([d0, (.lit (.int .i64 n1)), d2] ++ []) = { results := [.lit (.bool true)], args := [d0, (.lit (.int .i64 n1)), d2] } := by simp [Rows.catsHoldSpec]
  refine ⟨_, rfl, _, _, _, [], p0 ++ ([] ++ p2), [], hW', ?_, ?_, ?_, hb.frame _, fun h => by cases h⟩
  · exact e1 ▸ trodAll_mk1 (shut_bool Tryd.underlying4 true)
  · exact e1 ▸ trodAll_mk3 (Below.trod Tryd.laidOut (by kernel_rfl) (of_decide_eq_true (by kernel_rfl)) h0 hb hlt0) (shut_int Tryd.underlying3 w1) (Below.trod Tryd.laidOut (by kernel_rfl) (of_decide_eq_true (by kernel_rfl)) h2 hb hlt2)
  · exact e1 ▸ rfl

theorem catsHold_row : Rows.CatsHoldSaid :=
  OpenClaim.holds_of_cond 5 Tryd.f5 rfl rfl rfl rfl rfl rfl rfl ⟨rfl, rfl, rfl, rfl, rfl⟩ rfl rfl rfl rfl rfl (by kernel_rfl) Tryd.func5 (by kernel_rfl)
    (of_decide_eq_true (by kernel_rfl)) (by unfold Func.isWrapper; rw [if_neg (of_decide_eq_false (by kernel_rfl))]; exact ⟨rfl, rfl⟩)
    (fun os started H enc _ F => by rw [OpenClaim.pre_eq_preRow]; exact catsHold_lifted os started H enc F)

theorem catsHold_holds : Rows.CatsHoldCardSaid :=
  Claim7.holds_tied_plain_at .later [] _ _ _ _ catsHold_row (fun _ h => by cases h) (by kernel_rfl) (fun _ h => by cases h) catsHold_row_tie rfl ⟨rfl, rfl⟩ (by kernel_rfl) rfl
    (fun f fn hf hfn => by
      obtain rfl : f = 5 := Option.some.inj ((show Tryd.prog.funcNamed Rows.catsHoldRow.func = some 5 by kernel_rfl).symm.trans hf) |>.symm
      obtain rfl : fn = Tryd.f5 := (Option.some.inj (Tryd.func5.symm.trans hfn)).symm
      exact ⟨by kernel_rfl, fun j t ht => by
        rw [Tryd.params5] at ht
        have hm : t ∈ [22, 3, 40] := by simpa using Array.mem_of_getElem? ht
        have hall : ([22, 3, 40].all fun u => !Tryd.prog.wantsStandIn u) = true := by kernel_rfl
        exact (show Tryd.prog.wantsStandIn t = false by simpa using List.all_eq_true.1 hall t hm)⟩)
    (by kernel_rfl)
end Go.Proofs.YtkjenigpheppjaaDoor
