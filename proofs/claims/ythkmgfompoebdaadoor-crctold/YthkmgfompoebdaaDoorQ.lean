/- CrcTold, the tied card: for every slice of bytes and every two numbers of 16 bits the law returns true, and each argument reads afterwards as it read before. Conditions: none beyond the row's own; the table crc.steps, which the row lists, is tied to the program's text by the card (over the pruned copy of the project that the seat holds). -/
import Derived.Test.YthkmgfompoebdaaDoorP
import Derived.Test.YthkmgfompoebdaaDoorN
import Derived.Test.YthkmgfompoebdaaDoorTie
import Derived.Test.YthkmgfompoebdaaDoorCards
import Derived.SevenTiedAt
import Derived.Stop.Joined
namespace Go.Proofs.YthkmgfompoebdaaDoor
open Go.ChangeShapes Go.WideShapes Go.ChangeAt Go.RowKit

theorem Tryd.cells39 : Tryd.prog.cellsOf 39 = 1 := by kernel_rfl
theorem Tryd.cells40 : Tryd.prog.cellsOf 40 = 2 := by kernel_rfl

/-- An array of two numbers of 16 bits that came in, opened. -/
theorem open_pair {H : Type} {enc : TypeId × Value → H} {W : World} {base b0 : Nat} {sp : Nat → Bool} {held : Bool} {v : Value} {d : DataW H} {p : List MemPlace}
    (h : DataW.Trod enc Tryd.prog W base sp held 40 v d p) (hv : Value.okWide Tryd.prog W .any b0 40 v) : ∃ a0 a1 : Nat, v = .agg #[.int .u16 (a0 : Int), .int .u16 (a1 : Int)] ∧ a0 < 65536 ∧ a1 < 65536 := by
  simp only [Value.okWide, Tryd.underlying40] at hv
  obtain ⟨cs, rfl, hsz, _⟩ := hv
  rw [Tryd.cells40] at hsz
  obtain ⟨c0, c1, rfl⟩ : ∃ c0 c1, cs = #[c0, c1] := by
    obtain ⟨l⟩ := cs
    match l, hsz with
    | [c0, c1], _ => exact ⟨c0, c1, rfl⟩
  obtain ⟨fuel, hf⟩ := h
  obtain ⟨xs, m, _, _, _, hl, hel⟩ := DataW.trod_array Tryd.underlying40 hf
  have h0 := hel 0 (by omega)
  have h1 := hel 1 (by omega)
  rw [Tryd.cells39, List.getElem?_eq_getElem (by omega)] at h0 h1
  obtain ⟨z0, e0, _, w0⟩ := DataW.trod_int Tryd.underlying39 h0
  obtain ⟨z1, e1, _, w1⟩ := DataW.trod_int Tryd.underlying39 h1
  simp [Value.cells] at e0 e1
  have b0 := bounds_u16 w0
  have b1 := bounds_u16 w1
  obtain ⟨a0, rfl⟩ := Int.eq_ofNat_of_zero_le b0.1
  obtain ⟨a1, rfl⟩ := Int.eq_ofNat_of_zero_le b1.1
  exact ⟨a0, a1, by rw [e0, e1], by omega, by omega⟩

theorem told_any {w : World} {A : Option Addr} {c a0 a1 : Nat} {l : List Nat} (ht : TabIn w) (hl : Bts w w.heap.size A l) (hs : Sml l) (hc : l.length ≤ c) (hm : c ≤ maxLen) (hA : A = none → c = 0) (h0 : a0 < 65536) (h1 : a1 < 65536) :
    Calls Tryd.prog 5 #[.slice A l.length c, .agg #[.int .u16 (a0 : Int), .int .u16 (a1 : Int)]] w (Fine w) := by
  by_cases h : 500 < l.length
  · exact told_big ht h (by omega)
  · exact told_few ht hl hs (by omega) hA h0 h1

set_option maxRecDepth 100000 in
theorem told_lifted (os : Os) (started : os.Started) (H : Type) (enc : TypeId × Value → H) :
    ReturnsInHanded {} Tryd.checked os 5 .any (fun w args => (Rows.crcToldSpec.pre enc Tryd.prog Tryd.f5 Rows.crcToldRow.domain false w args ∧ laidMetH Tryd.prog Rows.crcToldRow.laid w) ∧ sizedMet enc Tryd.prog Tryd.f5 (OpenSpec.ofChange Rows.crcToldSpec) false w args)
      (Rows.crcToldSpec.post enc Tryd.prog Tryd.f5 false true false false) := by
  refine returnsInHanded_of_change_and (C := Tryd.checked) (X := fun w _ => laidMetH Tryd.prog Rows.crcToldRow.laid w) (fun _ _ _ hh h => h.of_heap hh) Tryd.own started (by kernel_rfl) Tryd.func5
    (ChangeSpec.witness_shaped (enc := enc) (C := Tryd.checked) (os := os) (X := fun w _ => laidMetH Tryd.prog Rows.crcToldRow.laid w) false (World.laidAll Tryd.prog os Rows.crcToldRow.laid) #[.slice none 0 0, .agg #[.int .u16 0, .int .u16 0]] 8 (World.laidAll_os _ _ _)
      (World.shaped_of_ZipB (by kernel_rfl) (by kernel_rfl)) (by kernel_rfl) (by kernel_rfl) (by kernel_rfl)
      (by rw [MakeChecks.laidMetH_plain _ _ _ (by kernel_rfl)]; exact laidMet_laidAll _ (by kernel_rfl) (by kernel_rfl))) ?_
  intro W base args ds gs before hval0 hW hc _ hL _
  have hval : ∀ (j : Nat) t v, Tryd.f5.params[j]? = some t → args[j]? = some v → Value.okWide Tryd.prog W .any base t v := hval0
  have hW' := hW
  obtain ⟨p, q, hA0, hV, rfl, _, _⟩ := hW
  have hA : DataW.TrodAll enc Tryd.prog W 0 (fun _ => true) true Tryd.f5.params.toList args.toList ds p := hA0
  rw [Tryd.params5] at hA hval
  obtain ⟨v0, v1, d0, d1, p0, p1, rfl, rfl, rfl, h0, h1⟩ := trodAll_two hA
  obtain ⟨rfl, rfl⟩ := trodVars_none hV
  have ht : TabIn W := tab_of_laid hL
  obtain ⟨A, n, c, rfl, hnc, hcm, hAc, l, rfl, hs, hl⟩ := open_bts h0 (okWide_slice Tryd.underlying28 (hval 0 28 v0 rfl rfl))
  obtain ⟨a0, a1, rfl, ha0, ha1⟩ := open_pair h1 (hval 1 40 v1 rfl rfl)
  refine (told_any ht hl hs hnc hcm hAc ha0 ha1).mono fun e W' ⟨he, hb⟩ => ?_
  subst he
  have hlt0 : ∀ x ∈ p0, x.block < W.heap.size := fun x hx => hW'.lt x (by simp [hx])
  have hlt1 : ∀ x ∈ p1, x.block < W.heap.size := fun x hx => hW'.lt x (by simp [hx])
  have e1 : Rows.crcToldSpec.fn H ([d0, d1] ++ []) = { results := [.lit (.bool true)], args := [d0, d1] } := by simp [Rows.crcToldSpec]
  refine ⟨_, rfl, _, _, _, [], p0 ++ p1, [], hW', ?_, ?_, ?_, hb.frame _, fun h => by cases h⟩
  · rw [e1]; exact trodAll_mk1 (shut_bool Tryd.underlying4 true)
  · rw [e1]; exact trodAll_mk2 (Below.trod Tryd.laidOut (by kernel_rfl) (of_decide_eq_true (by kernel_rfl)) h0 hb hlt0) (Below.trod Tryd.laidOut (by kernel_rfl) (of_decide_eq_true (by kernel_rfl)) h1 hb hlt1)
  · rw [e1]; rfl

theorem told_row : Rows.CrcToldSaid :=
  OpenClaim.holds_of_wide 5 Tryd.f5 rfl rfl rfl rfl rfl rfl rfl ⟨rfl, rfl, rfl, rfl, rfl⟩ rfl rfl rfl rfl rfl (by kernel_rfl) Tryd.func5 (by kernel_rfl)
    (of_decide_eq_true (by kernel_rfl)) (by unfold Func.isWrapper; rw [if_neg (of_decide_eq_false (by kernel_rfl))]; exact ⟨rfl, rfl⟩)
    (fun os started H enc _ => told_lifted os started H enc)

theorem crcTold_holds : Rows.CrcToldCardSaid :=
  Claim7.holds_tied_plain_at .later [] [.data] true (true, "15b352b7ad3c7f769c482648bdefd7d13c208606656d1a91484ad2226776da8e") false
    told_row (fun _ h => by cases h) (by kernel_rfl) (fun _ h => by cases h) crcTold_row_tie rfl ⟨rfl, rfl⟩ (by kernel_rfl) rfl
    (fun f fn hf hfn => by
      obtain rfl : f = 5 := Option.some.inj ((show Tryd.prog.funcNamed Rows.crcToldRow.func = some 5 by kernel_rfl).symm.trans hf) |>.symm
      obtain rfl : fn = Tryd.f5 := (Option.some.inj (Tryd.func5.symm.trans hfn)).symm
      exact ⟨by kernel_rfl, fun j t ht => by
        rw [Tryd.params5] at ht
        have hm : t ∈ [28, 40] := by simpa using Array.mem_of_getElem? ht
        have hall : ([28, 40].all fun u => !Tryd.prog.wantsStandIn u) = true := by kernel_rfl
        exact (show Tryd.prog.wantsStandIn t = false by simpa using List.all_eq_true.1 hall t hm)⟩)
    (by kernel_rfl)
end Go.Proofs.YthkmgfompoebdaaDoor
