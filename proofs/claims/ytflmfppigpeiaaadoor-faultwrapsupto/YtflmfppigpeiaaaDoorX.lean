/- FaultWraps, the second form's tied card: for every slice of links, every place and every number that are together of bulk at most 1048576 the law returns true, and each argument reads afterwards as it read before. Conditions: that bound, and none beyond the row's own; errors.errorType, which the row lists, is tied to the program's text by the card (over the pruned copy of the project that the seat holds); of the library's table of powers nothing is asked but its shape. -/
import Derived.Test.YtflmfppigpeiaaaDoorP
import Derived.Test.YtflmfppigpeiaaaDoorW
import Derived.Test.YtflmfppigpeiaaaDoorTie
import Derived.Test.YtflmfppigpeiaaaDoorCards
import Derived.ProofKit
import Derived.OpenShut
import Derived.ChangeMaps5
import Derived.Deep.DeepHandedRow
import Derived.SevenTiedAt
namespace Go.Proofs.YtflmfppigpeiaaaDoor
open Go.ChangeShapes Go.WideShapes Go.ChangeAt Go.RowKit

theorem Tryd.pow0 : ((begin Tryd.prog (fun _ _ => 0) default).world.heap[1]?).bind Obj.row? = some (Array.replicate 20 (.int .u64 0), 112) := by kernel_rfl
theorem Tryd.pow1 : Tryd.prog.buildable 112 = true := by kernel_rfl
theorem Tryd.pow2 : Tryd.prog.cellTypes Tryd.prog.depth 112 = some (List.replicate 20 104) := by kernel_rfl
theorem Tryd.pow3 : 1 < Tryd.prog.globals.size := of_decide_eq_true (by kernel_rfl)

set_option maxRecDepth 100000 in
/-- Of the library's table: its cells hold numbers, whichever. -/
theorem tab_of_shape {W : World} (h : W.ShapedOpen Tryd.prog) : ∃ T, TabT T W := by
  obtain ⟨cs, hh, hs, hr⟩ := h.1 1 _ 112 Tryd.pow3 Tryd.pow0
  obtain ⟨ts, hts, _, hall⟩ := hr Tryd.pow1
  rw [Tryd.pow2] at hts
  injection hts with hts
  subst hts
  have hs20 : cs.size = 20 := by simpa using hs
  have each : ∀ j, j < 20 → ∃ n : Nat, W.cell? ⟨1, j, none⟩ = some (.int .u64 (n : Int)) := by
    intro j hj
    have hj2 : j < cs.size := by omega
    obtain ⟨u, hu, hok⟩ := hall j cs[j] (by simp [hj2])
    have e1 : u = 104 := by
      rw [List.length_replicate, Nat.mod_eq_of_lt hj, List.getElem?_replicate, if_pos hj] at hu
      exact (Option.some.inj hu).symm
    subst e1
    have hcell : W.cell? ⟨1, j, none⟩ = some cs[j] := by simp [World.cell?, hh, hj2]
    rw [hcell]
    unfold Cell.ok at hok
    rw [Tryd.underlying104] at hok
    cases hv : cs[j] <;> rw [hv] at hok <;> simp at hok
    case int k' n =>
      obtain ⟨rfl, hn⟩ := hok
      have h0 : 0 ≤ n := by
        have e0 : IntKind.u64.min = 0 := by decide
        have := hn.1
        rw [e0] at this
        exact this
      obtain ⟨m, rfl⟩ := Int.eq_ofNat_of_zero_le h0
      exact ⟨m, rfl⟩
  refine ⟨fun j => match W.cell? ⟨1, j, none⟩ with | some (.int _ n) => n.toNat | _ => 0, ?_, fun j hj => ?_⟩
  · obtain ⟨n, hn⟩ := each 0 (by omega)
    exact World.block_lt_of_cell? W _ hn
  · obtain ⟨n, hn⟩ := each j hj
    simp only [hn, Int.toNat_natCast]

theorem part_le {H : Type} {d : DataW H} {l : List (DataW H)} (h : d ∈ l) : Rows.uptoBulk d ≤ Rows.uptoBulkAll l := by
  induction l with
  | nil => cases h
  | cons x r ih =>
    simp only [Rows.uptoBulkAll]
    rcases List.mem_cons.1 h with e | e
    · subst e; omega
    · have := ih e; omega

theorem num_of_wf {n : Int} (h : (Lit.int .i64 n).wf = true) : Num n := by
  have e1 : IntKind.i64.min = -9223372036854775808 := by decide
  have e2 : IntKind.i64.max = 9223372036854775807 := by decide
  simp only [Lit.wf, e1, e2, Bool.and_eq_true, decide_eq_true_eq] at h
  exact h

/-- A slice of links that came in, opened, with the bound on its places. -/
theorem open_linksF {H : Type} {enc : TypeId × Value → H} {W : World} {base : Nat} {sp : Nat → Bool} {held : Bool} {v : Value} {d : DataW H} {p : List MemPlace}
    (h : DataW.Trod enc Tryd.prog W base sp held 22 v d p) (hv : ∃ a len cap, v = .slice a len cap) (hk : Rows.uptoBulk d ≤ 1048576) :
    ∃ (A : Option Addr) (n c : Nat), v = .slice A n c ∧ n ≤ maxLen ∧ ∃ xs : List (ByteArray × Int), xs.length = n ∧ Links W W.heap.size A xs ∧ Fits xs := by
  obtain ⟨a, len, cap, rfl⟩ := hv
  obtain ⟨fuel, hf⟩ := h
  rcases Go.Deep.open_slice_pairs Tryd.underlying22 Tryd.underlying32 Tryd.cells32 rfl rfl Tryd.cells9 Tryd.cells3 hf with ⟨hcs, _⟩ | ⟨a', len', cap', m, n, V0, V1, D0, D1, P0, P1, hcs, hb, hl, hm, hmm, hx, hi⟩
  · simp [Value.cells] at hcs
    obtain ⟨rfl, rfl, rfl⟩ := hcs
    exact ⟨none, 0, 0, rfl, by unfold maxLen; omega, [], rfl, fun h => by simp at h, fun s n h => by cases h⟩
  · simp [Value.cells] at hcs
    obtain ⟨rfl, rfl, rfl⟩ := hcs
    refine ⟨some a', len, cap, rfl, by omega, ?_⟩
    have hlm : len ≤ m := by rw [hmm]; split <;> omega
    have hd : d = .slice ((List.range len).map fun i => .agg [D0 i, D1 i]) ((List.range (m - len)).map fun j => .agg [D0 (len + j), D1 (len + j)]) := (Prod.mk.inj hx).1
    have each : ∀ i, i < len → ∃ y : ByteArray × Int, W.cell? (a'.add (i * 2)) = some (.string y.1) ∧ W.cell? (a'.add (i * 2 + 1)) = some (.int .i64 y.2) ∧ y.1.size ≤ 1100000 ∧ Num y.2 := by
      intro i hil
      obtain ⟨c0, c1, t0, t1⟩ := hi i (by omega)
      obtain ⟨s, hs, hs2, _⟩ := DataW.trod_string Tryd.underlying9 t0
      obtain ⟨z, hz, _, hw⟩ := DataW.trod_int Tryd.underlying3 t1
      simp at hs hz
      have hD : D0 i = .lit (.string s.data.toList) := (Prod.mk.inj hs2).1
      have hsz : s.size ≤ 1100000 := by
        have h1 : Rows.uptoBulk (.agg [D0 i, D1 i]) ≤ Rows.uptoBulkAll ((List.range len).map fun i => DataW.agg [D0 i, D1 i]) := part_le (List.mem_map.2 ⟨i, List.mem_range.2 hil, rfl⟩)
        rw [hd] at hk
        simp only [Rows.uptoBulk] at hk
        have h2 : Rows.uptoBulk (D0 i) ≤ Rows.uptoBulkAll [D0 i, D1 i] := part_le (by simp)
        rw [hD] at h1 h2
        simp only [Rows.uptoBulk] at h1 h2
        have h3 : s.data.toList.length = s.size := by rw [Array.length_toList]; rfl
        omega
      exact ⟨(s, z), by rw [c0, hs], by rw [c1, hz], hsz, num_of_wf hw⟩
    obtain ⟨f, hf'⟩ := Go.Deep.choose_lt each
    refine ⟨(List.range len).map f, by simp, fun hp => ?_, ?_⟩
    · simp at hp
      obtain ⟨b, off, spot⟩ := a'
      have hspot : spot = none := by simpa [Addr.add] using World.cell?_spot (hf' 0 hp).1
      subst hspot
      have hlt := World.block_lt_of_cell? W _ (hf' 0 hp).1
      refine ⟨b, off, rfl, by simpa [Addr.add] using hlt, fun k s n hk => ?_⟩
      simp at hk
      obtain ⟨i, hi', hk⟩ := hk
      obtain ⟨hkl, rfl⟩ := List.getElem?_eq_some_iff.1 hi'
      simp at hkl hk
      obtain ⟨e0, e1, _⟩ := hf' k hkl
      rw [add_plain] at e0 e1
      rw [hk] at e0 e1
      exact ⟨e0, by rw [Nat.add_assoc]; exact e1⟩
    · intro s n hm
      simp only [List.mem_map, List.mem_range] at hm
      obtain ⟨i, hil, he⟩ := hm
      have := (hf' i hil).2.2
      rw [he] at this
      exact this

theorem wraps_long {w : World} {A : Option Addr} {n c : Nat} {p : ByteArray} {e : Int} (hg : w.cell? ⟨0, 0, none⟩ = some (.iface 75 (.agg #[.pointer (some ⟨5, 25, none⟩)]))) (hn : 50 < n) (hm : n ≤ maxLen) :
    Calls Tryd.prog 5 #[.slice A n c, .string p, .int .i64 e] w (FirstPost w) := by
  have F := Lib.hid (first_true hg)
  clear hg
  unfold maxLen at hm
  go_enter Tryd.func5, Tryd.ntmps5
  go_wp2_with (go_at_call 6; refine F.out.mono ?_; rintro e' w' ⟨rfl, hb⟩)
  go_ret
  exact ⟨rfl, hb⟩
theorem wraps_zero {w : World} {A : Option Addr} {n c : Nat} {p : ByteArray} (hg : w.cell? ⟨0, 0, none⟩ = some (.iface 75 (.agg #[.pointer (some ⟨5, 25, none⟩)]))) (hn : n ≤ 50) :
    Calls Tryd.prog 5 #[.slice A n c, .string p, .int .i64 0] w (FirstPost w) := by
  have F := Lib.hid (first_true hg)
  clear hg
  go_enter Tryd.func5, Tryd.ntmps5
  go_wp2_with (go_at_call 6; refine F.out.mono ?_; rintro e' w' ⟨rfl, hb⟩)
  go_ret
  exact ⟨rfl, hb⟩

theorem handleW {W : World} (h : laidMetH Tryd.prog Rows.faultWrapsUptoRow.laid W) : W.cell? ⟨0, 0, none⟩ = some (.iface 75 (.agg #[.pointer (some ⟨5, 25, none⟩)])) := handle_of_laid h
theorem laidWorldW_met (os : Os) (args : Array Value) : laidMetH Tryd.prog Rows.faultWrapsUptoRow.laid ((laidWorld os).forCall (fun _ _ => 0) ⟨#[], args, []⟩).memory :=
  laidMetH_of_parts (laidMet_nil _ _) (by kernel_rfl)
theorem readsW (os : Os) {H : Type} (enc : TypeId × Value → H) : ∃ places, DataW.whole enc Tryd.prog ((laidWorld os).forCall (fun _ _ => 0) ⟨#[], #[.slice none 0 0, .string ⟨#[]⟩, .int .i64 0], []⟩).memory Tryd.f5.params.toList Rows.faultWrapsSpec.vars false #[Value.slice none 0 0, .string ⟨#[]⟩, .int .i64 0].toList 8 = some ([.nil, .lit (.string []), .lit (.int .i64 0)], [], places) :=
  ⟨[], by kernel_rfl⟩

set_option maxRecDepth 100000 in
theorem wraps_lifted (os : Os) (started : os.Started) (H : Type) (enc : TypeId × Value → H) (F : Stop.Interp) :
    ReturnsInHanded {} Tryd.checked os 5 .any ((Rows.OpenSpec.upto Rows.faultWrapsSpec).preRow enc Tryd.prog Tryd.f5 Rows.faultWrapsUptoRow.domain false Rows.faultWrapsUptoRow.laid) (((Rows.OpenSpec.upto Rows.faultWrapsSpec).at F).post enc Tryd.prog Tryd.f5 false true false false) := by
  obtain ⟨places, hx⟩ := readsW os enc
  refine returnsInHanded_of_row (C := Tryd.checked) (s := Rows.OpenSpec.upto Rows.faultWrapsSpec) Tryd.own started (by kernel_rfl) Tryd.func5
    (witness_row_at (enc := enc) (C := Tryd.checked) false (laidWorld os) #[.slice none 0 0, .string ⟨#[]⟩, .int .i64 0] rfl (by kernel_rfl) (by kernel_rfl) (by kernel_rfl)
      (OpenSpec.preRow_of_cond 8 hx (by kernel_rfl) (fun k hk => by cases hk; kernel_rfl) (by kernel_rfl) (laidWorldW_met os _))) ?_
  intro W base args ds gs before hval0 hW _ hcond _ hL hsh _
  have hk := hcond _ rfl
  have hval : ∀ (j : Nat) t v, Tryd.f5.params[j]? = some t → args[j]? = some v → Value.okWide Tryd.prog W .any base t v := hval0
  have hW' := hW
  obtain ⟨p, q, hA0, hV, rfl, _, _⟩ := hW
  have hA : DataW.TrodAll enc Tryd.prog W 0 (fun _ => true) true Tryd.f5.params.toList args.toList ds p := hA0
  rw [Tryd.params5] at hA hval
  obtain ⟨v0, v1, v2, d0, d1, d2, p0, p1, p2, rfl, rfl, rfl, h0, h1, h2⟩ := trodAll_three hA
  obtain ⟨rfl, rfl⟩ := trodVars_none hV
  have hbulk : Rows.uptoBulkAll ([d0, d1, d2] ++ []) ≤ 1048576 := of_decide_eq_true hk
  have hb0 : Rows.uptoBulk d0 ≤ 1048576 := Nat.le_trans (part_le (by simp)) hbulk
  have hb1 : Rows.uptoBulk d1 ≤ 1048576 := Nat.le_trans (part_le (by simp)) hbulk
  obtain ⟨s, rfl, rfl, rfl, hsm⟩ := Go.ChangeMaps.open_string Tryd.underlying9 (hval 1 9 v1 rfl rfl) h1
  obtain ⟨n2, rfl, rfl, rfl, w2⟩ := open_int Tryd.underlying3 (hval 2 3 v2 rfl rfl) h2
  obtain ⟨A, n, c, rfl, hnm, xs, rfl, hxl, hft⟩ := open_linksF h0 (okWide_slice Tryd.underlying22 (hval 0 22 v0 rfl rfl)) hb0
  have hss : s.size ≤ 1100000 := by
    simp only [Rows.uptoBulk] at hb1
    have h3 : s.data.toList.length = s.size := by rw [Array.length_toList]; rfl
    omega
  have hg := handleW hL
  obtain ⟨T, hT⟩ := tab_of_shape hsh
  have fin : Calls Tryd.prog 5 #[.slice A xs.length c, .string s, .int .i64 n2] W (FirstPost W) := by
    by_cases hl : xs.length ≤ 50
    · cases hz : (n2 == 0)
      · exact wraps_main hg hT hxl hl hft hss hz (num_of_wf w2)
      · have hn0 : n2 = 0 := by simpa using hz
        subst hn0
        exact wraps_zero hg hl
    · exact wraps_long hg (by omega) hnm
  refine fin.mono fun e W' ⟨he, hb⟩ => ?_
  subst he
  have hlt : ∀ x ∈ p0, x.block < W.heap.size := fun x hx' => hW'.lt x (by simp [hx'])
  have e1 : Rows.faultWrapsSpec.fn H ([d0, .lit (.string s.data.toList), .lit (.int .i64 n2)] ++ []) = { results := [.lit (.bool true)], args := [d0, .lit (.string s.data.toList), .lit (.int .i64 n2)] } := by simp [Rows.faultWrapsSpec]
  refine ⟨_, rfl, _, _, _, [], p0 ++ ([] ++ []), [], hW', ?_, ?_, ?_, hb.frame _, fun h => by cases h⟩
  · exact e1 ▸ trodAll_mk1 (shut_bool Tryd.underlying4 true)
  · exact e1 ▸ trodAll_mk3 (Below.trod Tryd.laidOut (by kernel_rfl) (of_decide_eq_true (by kernel_rfl)) h0 hb hlt) (Go.ChangeMaps.shut_string Tryd.underlying9 hsm) (shut_int Tryd.underlying3 w2)
  · exact e1 ▸ rfl

theorem wraps_row : Rows.FaultWrapsUptoSaid :=
  OpenClaim.holds_of_cond 5 Tryd.f5 rfl rfl rfl rfl rfl rfl rfl ⟨rfl, rfl, rfl, rfl, rfl⟩ rfl rfl rfl rfl rfl (by kernel_rfl) Tryd.func5 (by kernel_rfl)
    (of_decide_eq_true (by kernel_rfl)) (by unfold Func.isWrapper; rw [if_neg (of_decide_eq_false (by kernel_rfl))]; exact ⟨rfl, rfl⟩)
    (fun os started H enc _ F => by rw [OpenClaim.pre_eq_preRow]; exact wraps_lifted os started H enc F)

theorem faultWraps_holds : Rows.FaultWrapsUptoCardSaid :=
  Claim7.holds_tied_plain_at .later [] _ _ _ _ wraps_row (fun _ h => by cases h) (by kernel_rfl) (fun _ h => by cases h) faultWrapsUpto_row_tie rfl ⟨rfl, rfl⟩ (by kernel_rfl) rfl
    (fun f fn hf hfn => by
      obtain rfl : f = 5 := Option.some.inj ((show Tryd.prog.funcNamed Rows.faultWrapsUptoRow.func = some 5 by kernel_rfl).symm.trans hf) |>.symm
      obtain rfl : fn = Tryd.f5 := (Option.some.inj (Tryd.func5.symm.trans hfn)).symm
      exact ⟨by kernel_rfl, fun j t ht => by
        rw [Tryd.params5] at ht
        have hm : t ∈ [22, 9, 3] := by simpa using Array.mem_of_getElem? ht
        have hall : ([22, 9, 3].all fun u => !Tryd.prog.wantsStandIn u) = true := by kernel_rfl
        exact (show Tryd.prog.wantsStandIn t = false by simpa using List.all_eq_true.1 hall t hm)⟩)
    (by kernel_rfl)
end Go.Proofs.YtflmfppigpeiaaaDoor
