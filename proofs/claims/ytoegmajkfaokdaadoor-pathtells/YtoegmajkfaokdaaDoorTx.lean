/- path.Text and the reference's. -/
import Derived.Test.YtoegmajkfaokdaaDoorRi
import Derived.Test.YtoegmajkfaokdaaDoorJoin
import Derived.Test.YtoegmajkfaokdaaDoorNm
namespace Go.Proofs.YtoegmajkfaokdaaDoor
open Go.RowKit

theorem StrRow.alloc {w : World} {B : Nat} {v : Value} {R : List (List UInt8)} (h : StrRow w B v R) (o : Obj) : StrRow (w.alloc o) B v R := World.ownsRow.alloc h o

set_option maxRecDepth 100000 in
theorem joinNil_any (w : World) : Calls Tryd.prog 35 #[.slice none 0 0, .string ⟨#[46]⟩] w fun e w' => e = .returned (.string (str [])) ∧ Below w.heap.size w w' := by
  go_enter Tryd.func35, Tryd.ntmps35
  go_wp2_with fail
  go_ret
  exact ⟨rfl, Below.refl _ _⟩

/-- Join of a row of texts of the call's own. -/
theorem join_any {w : World} {B : Nat} {v : Value} {R : List (List UInt8)} (h : StrRow w B v R) (hn : R.length ≤ 1000000) (hl : (Lib.join R [46]).length ≤ 140737488351232) :
    Calls Tryd.prog 35 #[v, .string ⟨#[46]⟩] w fun e w' => e = .returned (.string (str (Lib.join R [46]))) ∧ Below w.heap.size w w' := by
  have h0 : w.ownsRow B 9 1 v R.length (strCellsOf R) := h
  rcases h0.2 with ⟨hv, he⟩ | ⟨g, cap, cur, hv, hb, hh, hle, _⟩
  · have hR : R = [] := List.length_eq_zero_iff.1 he
    subst hv hR
    exact joinNil_any w
  · obtain ⟨A, c, hv2, hs⟩ := h.strs
    rw [hv] at hv2 ⊢
    injection hv2 with hA _ hc
    subst hA
    have hcells : ∀ (j : Nat) x, (R.map str)[j]? = some x → w.cell? ⟨g, 0 + j, none⟩ = some (.string x) := fun j x hx => by
      rw [List.getElem?_map] at hx
      obtain ⟨y, hy, rfl⟩ := Option.map_eq_some_iff.1 hx
      obtain ⟨b, o, hbo, _, hc2⟩ := hs (by have := (List.getElem?_eq_some_iff.1 hy).1; omega)
      injection hbo with hbo
      injection hbo with e1 e2
      subst e1 e2
      exact hc2 j y hy
    have e1 : (R.map str).map (fun x : ByteArray => x.data.toList) = R := by simp [Function.comp_def, str_list]
    have J := Tryd.strings_Join g 0 cap (R.map str) ⟨#[46]⟩ w hcells (World.ownsRow.lt h g (by rw [hv]; rfl)).2 (by simp; omega) (by simpa using hle) (by rw [e1]; show (Lib.join R [46]).length ≤ _; omega)
    rw [e1, List.length_map] at J
    exact J

def TxRel (w : World) (zs : List Int) (k : Nat) (v i : Value) (wr : World) : Prop :=
  ∃ m, m + k = zs.length ∧ i = .int .i64 (m : Int) ∧ StrRow wr w.heap.size v ((zs.take m).map Lib.itoa) ∧ Below w.heap.size w wr

set_option maxRecDepth 100000 in
theorem text_any {w : World} {A : Option Addr} {c : Nat} {zs : List Int} (he : Env w) (h : Zs w w.heap.size A zs) (hw : WideZ zs) (hn : zs.length ≤ 100000) :
    Calls Tryd.prog 13 #[.slice A zs.length c] w (RetB w (.string (str (zText zs)))) := by
  have HE := Lib.hid he
  have HZ := Lib.hid h
  have HW := Lib.hid hw
  clear he h hw
  go_enter Tryd.func13, Tryd.ntmps13
  go_wp2_with fail
  go_loopg [3, 8] zs.length (fun k v i wr => TxRel w zs k v i wr)
  case atStart => exact ⟨0, by simp, rfl, World.ownsRow_nil _ _ _ _, Below.refl _ _⟩
  case round =>
    obtain ⟨m, hmk, hi', hown, hb⟩ := hrel
    subst hi'
    have HB := Lib.hid hb
    cases gk with
    | zero =>
      have hge : zs.length ≤ m := by omega
      rw [List.take_of_length_le hge] at hown
      have hj := join_any hown (by simp; omega) (by
        have := zText_len HW.out
        unfold zText at this
        omega)
      have HJ : Hid (Calls Tryd.prog 35 #[_, .string ⟨#[46]⟩] wr fun e w' => e = .returned (.string (str (zText zs))) ∧ Below wr.heap.size wr w') := hj
      clear hown hb hj
      go_wp2_with fail
      refine HJ.out.mono ?_
      rintro e w' ⟨rfl, hj⟩
      have HJ2 := Lib.hid hj
      clear hj HJ
      go_wp2_with fail
      go_ret
      exact ⟨rfl, HB.out.trans (HJ2.out.mono HB.out.size)⟩
    | succ j =>
      have hm : m < zs.length := by omega
      obtain ⟨z, hx⟩ : ∃ x, zs[m]? = some x := ⟨_, List.getElem?_eq_getElem hm⟩
      obtain ⟨b, o, rfl, hlt, hcells⟩ := (HZ.out.below hb) (by omega)
      have c1 := hcells m z hx
      have hmem := List.mem_of_getElem? hx
      have hzw := HW.out z hmem
      have hsz := hb.size
      have HM := Lib.hid hmk
      have HX := Lib.hid hx
      have HI := Lib.hid (itoa_any (n := z) (HE.out.on hb) hzw.1 hzw.2)
      obtain ⟨R, hR⟩ : ∃ R, R = (zs.take m).map Lib.itoa := ⟨_, rfl⟩
      rw [← hR] at hown
      have HR := Lib.hid hown
      have hlen : R.length = m := by rw [hR]; simp; omega
      have HRR := Lib.hid hR
      clear hcells hx hmk hb hown hmem hzw hR
      go_wp2_with fail
      refine HI.out.mono ?_
      rintro e w2 ⟨rfl, hb2⟩
      have HR2 := Lib.hid ((HR.out.below hb2).alloc (.cells #[.string (str (Lib.itoa z))] 9))
      have HB2 : Hid (Below w.heap.size w (w2.alloc (.cells #[.string (str (Lib.itoa z))] 9))) := (HB.out.trans (hb2.mono hsz)).alloc (by have := hb2.size; omega) _
      have hsz2 : w.heap.size ≤ (w2.alloc (.cells #[.string (str (Lib.itoa z))] 9)).heap.size := by have := hb2.size; simp; omega
      have hle : R.length + 1 ≤ 1000001 := by omega
      clear hb2 HI HR hlen
      go_wp2_with (at_builtin; refine wpList_append_one rfl _ _ rfl w.heap.size _ _ rfl HR2.out ⟨w2.heap.size, 0, none⟩ (Lib.itoa z) rfl (cell_one_new _ _ _) hle hsz2 ?_)
      intro v' w3 hr3 hb3
      have HR3 := Lib.hid hr3
      have HB3 := Lib.hid (HB2.out.trans hb3)
      clear hr3 hb3
      go_wp2_with fail
      go_roundg j
      case measure => omega
      case rel =>
        refine ⟨m + 1, by have := HM.out; omega, by go_num, ?_, HB3.out⟩
        rw [take_snoc HX.out, List.map_append, ← HRR.out]
        exact HR3.out

def RtRel (w : World) (zs : List Int) (k : Nat) (s i : Value) (wr : World) : Prop :=
  ∃ m, m + k = zs.length ∧ i = .int .i64 (m : Int) ∧ s = .string (str (zText (zs.take m))) ∧ w = wr

set_option maxRecDepth 100000 in
theorem refText_any {w : World} {A : Option Addr} {c : Nat} {zs : List Int} (h : Zs w w.heap.size A zs) (hw : WideZ zs) (hn : zs.length ≤ 1000) :
    Calls Tryd.prog 14 #[.slice A zs.length c] w fun e w' => e = .returned (.string (str (zText zs))) ∧ w = w' := by
  have HZ := Lib.hid h
  have HW := Lib.hid hw
  clear h hw
  go_enter Tryd.func14, Tryd.ntmps14
  go_wp2_with fail
  go_loopg [3, 8] zs.length (fun k s i wr => RtRel w zs k s i wr)
  case atStart => exact ⟨0, by simp, rfl, rfl, rfl⟩
  case round =>
    obtain ⟨m, hmk, hi', hs, hww⟩ := hrel
    subst hi' hs hww
    cases gk with
    | zero =>
      have hge : zs.length ≤ m := by omega
      rw [List.take_of_length_le hge]
      go_wp2_with fail
      go_ret
      exact ⟨rfl, rfl⟩
    | succ j =>
      have hm : m < zs.length := by omega
      obtain ⟨z, hx⟩ : ∃ x, zs[m]? = some x := ⟨_, List.getElem?_eq_getElem hm⟩
      obtain ⟨b, o, rfl, hlt, hcells⟩ := HZ.out (by omega)
      have c1 := hcells m z hx
      have hzw := HW.out z (List.mem_of_getElem? hx)
      have HM := Lib.hid hmk
      have HI := Lib.hid (num_all hzw.1 hzw.2 w)
      obtain ⟨T, hT⟩ : ∃ T, T = zText (zs.take m) := ⟨_, rfl⟩
      have hTl : T.length ≤ 22000 := by
        rw [hT]
        have := zText_len (HW.out.take m)
        simp at this
        omega
      obtain ⟨I, hI⟩ : ∃ I, I = Lib.itoa z := ⟨_, rfl⟩
      have hIl : I.length ≤ 21 := by rw [hI]; exact Lib.itoa_length_le z hzw.1 hzw.2
      rw [← hI] at HI
      rw [← hT]
      by_cases h0 : m = 0
      · have HT0 : Hid (T = []) := by rw [Hid, hT, h0]; rfl
        have HN : Hid (zText (zs.take (m + 1)) = I) := by rw [Hid, take_snoc hx, hI, h0]; exact zText_one z
        have a2 : ∀ W : World, (Op.stringOp .add (str T) (str I)).run Tryd.prog W = .ok (.string (str I)) W := fun W => by
          have := str_add T I (by omega) W
          rw [HT0.out] at this ⊢
          exact this
        have hpos : ¬ (0 : Int) < (m : Int) := by omega
        clear hcells hx hzw hT hI hmk h0
        go_wp2_with (go_at_call 36; refine HI.out.mono ?_; rintro e w' ⟨rfl, rfl⟩)
        go_roundg j
        case measure => omega
        case rel => exact ⟨m + 1, by have := HM.out; omega, by go_num, by rw [HN.out], rfl⟩
      · have HN : Hid (zText (zs.take (m + 1)) = T ++ [46] ++ I) := by
          rw [Hid, take_snoc hx, hI, hT]
          have h2 : (zs.take m).length = m := by simp; omega
          exact zText_snoc (fun e => by rw [e] at h2; simp at h2; omega) z
        have a1 : ∀ W : World, (Op.stringOp .add (str T) ⟨#[46]⟩).run Tryd.prog W = .ok (.string (str (T ++ [46]))) W := fun W => str_add T [46] (by simp; omega) W
        have a2 : ∀ W : World, (Op.stringOp .add (str (T ++ [46])) (str I)).run Tryd.prog W = .ok (.string (str (T ++ [46] ++ I))) W := fun W => str_add (T ++ [46]) I (by simp; omega) W
        obtain ⟨X, hX⟩ : ∃ X, X = T ++ [46] ++ I := ⟨_, rfl⟩
        rw [← hX] at a2 HN
        have hpos : (0 : Int) < (m : Int) := by omega
        clear hcells hx hzw hT hI hmk hX h0
        go_wp2_with (go_at_call 36; refine HI.out.mono ?_; rintro e w' ⟨rfl, rfl⟩)
        go_roundg j
        case measure => omega
        case rel => exact ⟨m + 1, by have := HM.out; omega, by go_num, by rw [HN.out], rfl⟩
end Go.Proofs.YtoegmajkfaokdaaDoor
