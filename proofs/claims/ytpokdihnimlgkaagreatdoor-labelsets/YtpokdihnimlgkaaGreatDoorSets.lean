/- LabelSets, the tied card: for every label, every two texts and every int the law returns true, and each argument reads afterwards as it read before. Conditions: none beyond the row's own; the library's variables that the row lists are tied to the program's text by the card (over the pruned copy of the project that the seat holds; one table of the library is pinned by the form's constant). -/
import Derived.Test.YtpokdihnimlgkaaGreatDoorP
import Derived.Test.YtpokdihnimlgkaaGreatDoorSe
import Derived.Test.YtpokdihnimlgkaaGreatDoorTie
import Derived.Test.YtpokdihnimlgkaaGreatDoorCards
namespace Go.Proofs.YtpokdihnimlgkaaGreatDoor
open Go.ChangeShapes Go.WideShapes Go.ChangeAt Go.RowKit

theorem Tryz.cells50 : Tryz.prog.cellsOf 50 = 2 := by kernel_rfl

set_option maxRecDepth 100000 in
/-- An array of two strings that came in, opened. -/
theorem open_pair {H : Type} {enc : TypeId × Value → H} {W : World} {base b0 : Nat} {sp : Nat → Bool} {held : Bool} {v : Value} {d : DataW H} {p : List MemPlace}
    (h : DataW.Trod enc Tryz.prog W base sp held 50 v d p) (hv : Value.okWide Tryz.prog W .any b0 50 v) : ∃ a b : List UInt8, v = .agg #[.string (str a), .string (str b)] ∧ d = .agg [.lit (.string a), .lit (.string b)] := by
  simp only [Value.okWide, Tryz.underlying50] at hv
  obtain ⟨cs, rfl, hsz, _⟩ := hv
  rw [Tryz.cells50] at hsz
  obtain ⟨c0, c1, rfl⟩ : ∃ c0 c1, cs = #[c0, c1] := by
    obtain ⟨l⟩ := cs
    match l, hsz with
    | [c0, c1], _ => exact ⟨c0, c1, rfl⟩
  obtain ⟨fuel, hf⟩ := h
  obtain ⟨xs, m, _, hx, _, hl, hel⟩ := DataW.trod_array Tryz.underlying50 hf
  obtain ⟨y0, y1, rfl⟩ : ∃ y0 y1, xs = [y0, y1] := by
    match xs, hl with
    | [y0, y1], _ => exact ⟨y0, y1, rfl⟩
  have h0 := hel 0 (by omega)
  have h1 := hel 1 (by omega)
  rw [Tryz.cells9] at h0 h1
  obtain ⟨s0, e0, f0, _⟩ := DataW.trod_string (x := y0) Tryz.underlying9 h0
  obtain ⟨s1, e1, f1, _⟩ := DataW.trod_string (x := y1) Tryz.underlying9 h1
  simp [Value.cells] at e0 e1
  refine ⟨s0.data.toList, s1.data.toList, ?_, ?_⟩
  · rw [e0, e1, ← str_of, ← str_of]
  · rw [(Prod.mk.inj hx).1, f0, f1]
    rfl

set_option maxRecDepth 100000 in
theorem labelSets_lifted (os : Os) (started : os.Started) (H : Type) (enc : TypeId × Value → H) (F : Stop.Interp) :
    ReturnsInHanded {} Tryz.checked os 6 .any ((OpenSpec.ofChange Rows.labelSetsSpec).preRow enc Tryz.prog Tryz.f6 Rows.labelSetsRow.domain false Rows.labelSetsRow.laid) (((OpenSpec.ofChange Rows.labelSetsSpec).at F).post enc Tryz.prog Tryz.f6 false true false false) := by
  refine returnsInHanded_of_row (C := Tryz.checked) (s := OpenSpec.ofChange Rows.labelSetsSpec) Tryz.own started (by kernel_rfl) Tryz.func6
    (witness_laid (f := 6) (fn := Tryz.f6) (s := Rows.labelSetsSpec) (laid := laidList) #[.slice none 0 0, .agg #[.string ⟨#[]⟩, .string ⟨#[]⟩], .int .i64 0]
      (World.shaped_of_ZipB (by kernel_rfl) (by kernel_rfl)) (by kernel_rfl) (by kernel_rfl) (by kernel_rfl) (laid_met _)) ?_
  intro W base args ds gs before hval0 hW _ _ hwt hL hsh _
  have hval : ∀ (j : Nat) t v, Tryz.f6.params[j]? = some t → args[j]? = some v → Value.okWide Tryz.prog W .any base t v := hval0
  have hW' := hW
  obtain ⟨p, q, hA0, hV, rfl, _, _⟩ := hW
  have hA : DataW.TrodAll enc Tryz.prog W 0 (fun _ => true) true Tryz.f6.params.toList args.toList ds p := hA0
  have hwt2 : (DataW.weightsEach Tryz.prog (Tryz.f6.params.toList ++ (OpenSpec.ofChange Rows.labelSetsSpec).bare.plain.varTypes Tryz.prog) (ds ++ gs)).all (· ≤ reachBytes) = true := hwt
  rw [Tryz.params6] at hA hval hwt2
  obtain ⟨v0, v1, v2, d0, d1, d2, p0, p1, p2, rfl, rfl, rfl, h0, h1, h2⟩ := trodAll_three hA
  obtain ⟨rfl, rfl⟩ := trodVars_none hV
  have he : Env W := env_of hsh hL
  obtain ⟨A, c, l, rfl, hnil, hlm, hxm, hwd, hE, _⟩ := open_ents h0 (okWide_slice Tryz.underlying23 (hval 0 23 v0 rfl rfl))
  obtain ⟨a, b, rfl, hd⟩ := open_pair h1 (hval 1 50 v1 rfl rfl)
  obtain ⟨n2, rfl, rfl, rfl, w2⟩ := open_int Tryz.underlying3 (hval 2 3 v2 rfl rfl) h2
  have hle : ∀ x ∈ [a, b], x.length ≤ 281474976710656 := fun x hx => by
    have h3 : ∀ n ∈ DataW.weights Tryz.prog 50 d1, n ≤ reachBytes := fun n hn => by
      have h4 := List.all_eq_true.1 hwt2 n (DataW.weights_mem_each (P := Tryz.prog) (j := 1) (t := 50) (d := d1) rfl rfl n hn)
      simpa using h4
    have h5 : x.length ∈ DataW.weights Tryz.prog 50 d1 := by
      rw [hd]
      simp only [DataW.weights, Tryz.underlying50, DataW.weightsAll]
      simp at hx
      rcases hx with rfl | rfl <;> simp
    exact Nat.le_trans (h3 _ h5) (by decide)
  refine (sets_any (n := n2) he hE hnil hxm hlm (hle a (by simp)) (hle b (by simp))).mono fun e W' ⟨he, hb⟩ => ?_
  subst he
  have hlt0 : ∀ x ∈ p0, x.block < W.heap.size := fun x hx => hW'.lt x (by simp [hx])
  have hlt1 : ∀ x ∈ p1, x.block < W.heap.size := fun x hx => hW'.lt x (by simp [hx])
  have e1 : Rows.labelSetsSpec.fn H ([d0, d1, (.lit (.int .i64 n2))] ++ []) = { results := [.lit (.bool true)], args := [d0, d1, (.lit (.int .i64 n2))] } := by simp [Rows.labelSetsSpec]
  refine ⟨_, rfl, _, _, _, [], p0 ++ (p1 ++ []), [], hW', ?_, ?_, ?_, hb.frame _, fun h => by cases h⟩
  · exact e1 ▸ trodAll_mk1 (shut_bool Tryz.underlying4 true)
  · exact e1 ▸ trodAll_mk3 (Below.trod Tryz.laidOut (by kernel_rfl) (of_decide_eq_true (by kernel_rfl)) h0 hb hlt0) (Below.trod Tryz.laidOut (by kernel_rfl) (of_decide_eq_true (by kernel_rfl)) h1 hb hlt1) (shut_int Tryz.underlying3 w2)
  · exact e1 ▸ rfl

theorem labelSets_row : Rows.LabelSetsSaid :=
  OpenClaim.holds_of_cond 6 Tryz.f6 rfl rfl rfl rfl rfl rfl rfl ⟨rfl, rfl, rfl, rfl, rfl⟩ rfl rfl rfl rfl rfl (by kernel_rfl) Tryz.func6 (by kernel_rfl)
    (of_decide_eq_true (by kernel_rfl)) (by unfold Func.isWrapper; rw [if_neg (of_decide_eq_false (by kernel_rfl))]; exact ⟨rfl, rfl⟩)
    (fun os started H enc _ F => by rw [OpenClaim.pre_eq_preRow]; exact labelSets_lifted os started H enc F)

theorem labelSets_holds : Rows.LabelSetsCardSaid :=
  Claim7.holds_tied_plain_at .later [] _ _ _ _ labelSets_row (fun _ h => by cases h) (by kernel_rfl) (fun _ h => by cases h) labelSets_row_tie rfl ⟨rfl, rfl⟩ (by kernel_rfl) rfl
    (fun f fn hf hfn => by
      obtain rfl : f = 6 := Option.some.inj ((show Tryz.prog.funcNamed Rows.labelSetsRow.func = some 6 by kernel_rfl).symm.trans hf) |>.symm
      obtain rfl : fn = Tryz.f6 := (Option.some.inj (Tryz.func6.symm.trans hfn)).symm
      exact ⟨by kernel_rfl, fun j t ht => by
        rw [Tryz.params6] at ht
        have hm : t ∈ [23, 50, 3] := by simpa using Array.mem_of_getElem? ht
        have hall : ([23, 50, 3].all fun u => !Tryz.prog.wantsStandIn u) = true := by kernel_rfl
        exact (show Tryz.prog.wantsStandIn t = false by simpa using List.all_eq_true.1 hall t hm)⟩)
    (by kernel_rfl)
end Go.Proofs.YtpokdihnimlgkaaGreatDoor
