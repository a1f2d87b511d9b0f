/- The reference's Sort. -/
import Derived.Test.YtglidfmgechneaaGreatDoorStr
import Derived.Test.YtglidfmgechneaaGreatDoorIns
import Derived.Test.YtglidfmgechneaaGreatDoorV
namespace Go.Proofs.YtglidfmgechneaaGreatDoor
open Go.RowKit Go.Shelf

/-- A slice of strings that rise strictly: the categories of l. -/
def RetRef (w : World) (l : List (List UInt8)) (e : Ending) (w' : World) : Prop :=
  Below w.heap.size w w' ∧ ∃ A c R, e = .returned (.slice A R.length c) ∧ Strs w' w'.heap.size A R ∧ Rises cmpC R ∧ ∀ x, x ∈ R ↔ x ∈ l ∧ (catOf x).isSome = true

theorem cat_short {x : List UInt8} (h : (catOf x).isSome = true) : x.length ≤ 1048576 := by
  cases hc : catOf x with
  | none => rw [hc] at h; cases h
  | some p =>
    obtain ⟨⟨⟨hl, hp⟩, hn⟩, hx⟩ := catOf_iff.1 hc
    have h1 := path_len p.1 hp
    have h2 := dec_len7 (u := p.2) (by omega)
    rw [hx]
    unfold catText
    rw [List.length_append, List.length_cons]
    omega

def OutRel (w : World) (l : List (List UInt8)) (k : Nat) (v i : Value) (wr : World) : Prop :=
  ∃ m R A c, m + k = l.length ∧ i = .int .i64 (m : Int) ∧ v = .slice A R.length c ∧ Strs wr wr.heap.size A R ∧ Rises cmpC R ∧ R.length ≤ 2 * m ∧ (∀ x, x ∈ R ↔ x ∈ l.take m ∧ (catOf x).isSome = true) ∧ Below w.heap.size w wr
def InRel (W : World) (s : List UInt8) (R : List (List UInt8)) (k : Nat) (u d i : Value) (wr : World) : Prop :=
  ∃ j N dd, j + k = R.length ∧ i = .int .i64 (j : Int) ∧ d = .bool dd ∧ InsAt cmpC R s j N dd ∧ StrRow wr W.heap.size u N ∧ Below W.heap.size W wr

theorem more_no {l : List (List UInt8)} {m : Nat} {x : List UInt8} {R : List (List UInt8)} (hx : l[m]? = some x) (hc : catOf x = none) (h : ∀ y, y ∈ R ↔ y ∈ l.take m ∧ (catOf y).isSome = true) : ∀ y, y ∈ R ↔ y ∈ l.take (m + 1) ∧ (catOf y).isSome = true := fun y => by
  rw [mem_take_snoc hx y, h y]
  constructor
  · rintro ⟨h1, h2⟩; exact ⟨.inl h1, h2⟩
  · rintro ⟨h1 | h1, h2⟩
    · exact ⟨h1, h2⟩
    · subst h1; rw [hc] at h2; cases h2
theorem more_yes {l : List (List UInt8)} {m : Nat} {x : List UInt8} {R N : List (List UInt8)} (hx : l[m]? = some x) (hc : (catOf x).isSome = true) (h : ∀ y, y ∈ R ↔ y ∈ l.take m ∧ (catOf y).isSome = true) (hN : ∀ y, y ∈ N ↔ y ∈ R ∨ y = x) : ∀ y, y ∈ N ↔ y ∈ l.take (m + 1) ∧ (catOf y).isSome = true := fun y => by
  rw [hN y, mem_take_snoc hx y, h y]
  constructor
  · rintro (⟨h1, h2⟩ | h1)
    · exact ⟨.inl h1, h2⟩
    · subst h1; exact ⟨.inr rfl, hc⟩
  · rintro ⟨h1 | h1, h2⟩
    · exact .inl ⟨h1, h2⟩
    · exact .inr h1

set_option maxRecDepth 100000 in
set_option maxHeartbeats 4000000 in
theorem refSort_any {w : World} {A : Option Addr} {c : Nat} {l : List (List UInt8)} (hl : Strs w w.heap.size A l) (hx : ∀ x ∈ l, x.length ≤ 1048576) (hn : l.length ≤ 100000) :
    Calls Tryz.prog 40 #[.slice A l.length c] w (RetRef w l) := by
  have HL := Lib.hid hl
  have HX := Lib.hid hx
  clear hl hx
  go_enter Tryz.func40, Tryz.ntmps40
  go_wp2_with fail
  go_loopg [3, 15] l.length (fun k v i wr => OutRel w l k v i wr)
  case atStart => exact ⟨0, [], none, 0, by simp, rfl, rfl, fun h => absurd h (by simp), List.Pairwise.nil, by simp, by simp, Below.refl _ _⟩
  case round =>
    obtain ⟨m, R, A0, c0, hmk, hi, hv, hR, hrise, hRm, hmem, hb⟩ := hrel
    subst hi hv
    have HR := Lib.hid hR
    have HS := Lib.hid hrise
    have HB := Lib.hid hb
    have HM := Lib.hid hmem
    have hsz := hb.size
    cases gk with
    | zero =>
      have hge : l.length ≤ m := by omega
      have HM2 : Hid (∀ x, x ∈ R ↔ x ∈ l ∧ (catOf x).isSome = true) := by
        have := hmem
        rwa [List.take_of_length_le hge] at this
      clear hb hmem hrise hR
      go_wp2_with fail
      go_ret
      exact ⟨HB.out, _, _, R, rfl, HR.out, HS.out, HM2.out⟩
    | succ jj =>
      have hm : m < l.length := by omega
      obtain ⟨x, hx⟩ : ∃ x, l[m]? = some x := ⟨_, List.getElem?_eq_getElem hm⟩
      obtain ⟨b, o, rfl, hlt, hcells⟩ := HL.out (by omega)
      have cx := (hb.cell (p := ⟨b, o + m, none⟩) hlt).trans (hcells m x hx)
      have hxl := HX.out x (List.mem_of_getElem? hx)
      have H9 := Lib.hid (get_any (w := wr) hxl)
      have HXM := Lib.hid hx
      have HMK := Lib.hid hmk
      clear hx hcells hmk hb hmem hrise hR
      go_wp2_with fail
      refine H9.out.mono ?_
      rintro e w1 ⟨hb1, (⟨p, n, v, hc1, rfl, hrow1⟩ | ⟨hc1, rfl⟩)⟩
      · obtain ⟨A1, cc1, rfl⟩ := hrow1.slice
        obtain ⟨W, hW⟩ : ∃ W, W = w1.alloc (.cells #[.slice A1 p.length cc1, .int .i64 (n : Int)] 56) := ⟨_, rfl⟩
        have HCX : Hid ((catOf x).isSome = true) := by rw [hc1]; rfl
        have bW : Hid (Below wr.heap.size wr W) := by rw [hW]; exact hb1.alloc hb1.size _
        have BW : Hid (Below w.heap.size w W) := HB.out.trans (bW.out.mono hsz)
        have RW : Hid (Strs W W.heap.size A0 R) := (HR.out.below bW.out).more bW.out.size
        clear hb1 hc1 hrow1 H9 cx
        go_wp2_with fail
        rw [← hW]
        clear hW
        go_loopg [8, 9, 28] R.length (fun k u d i wr => InRel W x R k u d i wr)
        case atStart => exact ⟨0, [], false, by simp, rfl, rfl, InsAt.start R x, World.ownsRow_nil _ _ _ _, Below.refl _ _⟩
        case round =>
          obtain ⟨j, N, dd, hjk, hi, hd, hins, hrow, hbi⟩ := hrel
          subst hi hd
          have HI := Lib.hid hins
          have HN := Lib.hid hrow
          have HBI := Lib.hid hbi
          have hlen := hins.len
          have wrS := hbi.size
          have BO := Lib.hid (BW.out.trans (hbi.mono BW.out.size))
          cases gk with
          | zero =>
            have hge : R.length ≤ j := by omega
            have hjl : j ≤ R.length := by omega
            cases dd with
            | true =>
              obtain ⟨hr1, hm1⟩ := hins.done hge
              have HN2 := Lib.hid (more_yes HXM.out HCX.out HM.out hm1)
              have HS2 := Lib.hid hr1
              obtain ⟨A2, c2, rfl, hs2⟩ := hrow.strs
              have HS3 := Lib.hid hs2
              clear hins hrow hbi hr1 hm1 hs2 hjk
              go_wp2_with fail
              go_roundg jj
              case measure => omega
              case rel => exact ⟨m + 1, N, A2, c2, by have := HMK.out; omega, by go_num, rfl, HS3.out, HS2.out, by omega, HN2.out, BO.out⟩
            | false =>
              obtain ⟨hr1, hm1⟩ := hins.last hge
              have HN2 := Lib.hid (more_yes HXM.out HCX.out HM.out hm1)
              have HS2 := Lib.hid hr1
              clear hins hrow hbi hr1 hm1 hjk
              have hle : N.length + 1 ≤ 1000001 := by omega
              have hbase : ∀ s, W.heap.size ≤ (wr.alloc (.cells #[.string s] 9)).heap.size := fun s => by simp; omega
              go_wp2_with (at_builtin; refine wpList_append_one rfl _ _ rfl W.heap.size _ N rfl (World.ownsRow.alloc HN.out _) ⟨wr.heap.size, 0, none⟩ x rfl (cell_one_new _ _ _) hle (hbase _) ?_)
              intro v' w2 hown hb2
              obtain ⟨A2, c2, rfl, hs2⟩ := hown.strs
              have HS3 := Lib.hid hs2
              have B2 := Lib.hid (((HBI.out.alloc HBI.out.size _).trans hb2))
              have BO2 := Lib.hid (BW.out.trans (B2.out.mono BW.out.size))
              clear hown hb2 hs2
              go_wp2_with fail
              go_roundg jj
              case measure => omega
              case rel => exact ⟨m + 1, N ++ [x], A2, c2, by have := HMK.out; omega, by go_num, rfl, HS3.out, HS2.out, by simp; omega, HN2.out, BO2.out⟩
          | succ ji =>
            have hj : j < R.length := by omega
            obtain ⟨t, ht⟩ : ∃ t, R[j]? = some t := ⟨_, List.getElem?_eq_getElem hj⟩
            obtain ⟨b0, o0, rfl, hlt0, hcells0⟩ := RW.out (by omega)
            have ct := (hbi.cell (p := ⟨b0, o0 + j, none⟩) hlt0).trans (hcells0 j t ht)
            have htl := cat_short ((HM.out t).1 (List.mem_of_getElem? ht)).2
            have H15 := Lib.hid (refCompare_any (w := wr) hxl htl)
            have HTR := Lib.hid ht
            have HJK := Lib.hid hjk
            obtain ⟨z, hz⟩ : ∃ z, z = cmpC x t := ⟨_, rfl⟩
            rw [← hz] at H15
            have HZ := Lib.hid hz
            have hone := tot_cmpC.one x t
            rw [← hz] at hone
            have hle : N.length + 1 ≤ 1000001 := by omega
            have hle2 : (N ++ [x]).length + 1 ≤ 1000001 := by simp; omega
            clear ht hcells0 hins hrow hbi hz hjk
            go_wp2_with fail
            refine H15.out.mono ?_
            rintro e w1' ⟨rfl, hb2⟩
            have B2 := Lib.hid (HBI.out.trans (hb2.mono HBI.out.size))
            have N2 := Lib.hid (HN.out.below hb2)
            have w1S := B2.out.size
            have hbase : ∀ s, W.heap.size ≤ (w1'.alloc (.cells #[.string s] 9)).heap.size := fun s => by simp; omega
            clear hb2 H15 ct
            rcases hone with rfl | rfl | rfl
            · cases dd with
              | false =>
                have HI2 := Lib.hid (HI.out.put tot_cmpC HS.out HTR.out HZ.out.symm)
                go_wp2_with (at_builtin; refine wpList_append_one rfl _ _ rfl W.heap.size _ N rfl (World.ownsRow.alloc N2.out _) ⟨w1'.heap.size, 0, none⟩ x rfl (cell_one_new _ _ _) hle (hbase _) ?_)
                intro v' w2 hown hb3
                have N3 := Lib.hid hown
                have B3 := Lib.hid ((B2.out.alloc B2.out.size _).trans hb3)
                have w2S := B3.out.size
                have hbase2 : ∀ s, W.heap.size ≤ (w2.alloc (.cells #[.string s] 9)).heap.size := fun s => by simp; omega
                clear hown hb3
                go_wp2_with (at_builtin; refine wpList_append_one rfl _ _ rfl W.heap.size _ (N ++ [x]) rfl (World.ownsRow.alloc N3.out _) ⟨w2.heap.size, 0, none⟩ t rfl (cell_one_new _ _ _) hle2 (hbase2 _) ?_)
                intro v3 w3 hown hb3
                have N4 : Hid (StrRow w3 W.heap.size v3 ((N ++ [x]) ++ [t])) := by rw [List.append_assoc]; exact hown
                have B4 := Lib.hid ((B3.out.alloc B3.out.size _).trans hb3)
                clear hown hb3
                go_wp2_with fail
                go_roundg ji
                case measure => omega
                case rel => exact ⟨j + 1, _, true, by have := HJK.out; omega, by go_num, rfl, HI2.out, N4.out, B4.out⟩
              | true =>
                have HI2 := Lib.hid (HI.out.pass HS.out HTR.out)
                go_wp2_with (at_builtin; refine wpList_append_one rfl _ _ rfl W.heap.size _ N rfl (World.ownsRow.alloc N2.out _) ⟨w1'.heap.size, 0, none⟩ t rfl (cell_one_new _ _ _) hle (hbase _) ?_)
                intro v3 w3 hown hb3
                have N4 := Lib.hid hown
                have B4 := Lib.hid ((B2.out.alloc B2.out.size _).trans hb3)
                clear hown hb3
                go_wp2_with fail
                go_roundg ji
                case measure => omega
                case rel => exact ⟨j + 1, _, true, by have := HJK.out; omega, by go_num, rfl, HI2.out, N4.out, B4.out⟩
            · have HI2 := Lib.hid (HI.out.same tot_cmpC HS.out HTR.out HZ.out.symm)
              go_wp2_with (at_builtin; refine wpList_append_one rfl _ _ rfl W.heap.size _ N rfl (World.ownsRow.alloc N2.out _) ⟨w1'.heap.size, 0, none⟩ t rfl (cell_one_new _ _ _) hle (hbase _) ?_)
              intro v3 w3 hown hb3
              have N4 := Lib.hid hown
              have B4 := Lib.hid ((B2.out.alloc B2.out.size _).trans hb3)
              clear hown hb3
              go_wp2_with fail
              go_roundg ji
              case measure => omega
              case rel => exact ⟨j + 1, _, true, by have := HJK.out; omega, by go_num, rfl, HI2.out, N4.out, B4.out⟩
            · have hdd : dd = false := by
                cases dd with
                | false => rfl
                | true =>
                  have := HI.out.yes rfl t (drop_mem HTR.out).1
                  have h2 := HZ.out
                  omega
              subst hdd
              have HI2 := Lib.hid (HI.out.wait tot_cmpC HS.out HTR.out HZ.out.symm)
              go_wp2_with (at_builtin; refine wpList_append_one rfl _ _ rfl W.heap.size _ N rfl (World.ownsRow.alloc N2.out _) ⟨w1'.heap.size, 0, none⟩ t rfl (cell_one_new _ _ _) hle (hbase _) ?_)
              intro v3 w3 hown hb3
              have N4 := Lib.hid hown
              have B4 := Lib.hid ((B2.out.alloc B2.out.size _).trans hb3)
              clear hown hb3
              go_wp2_with fail
              go_roundg ji
              case measure => omega
              case rel => exact ⟨j + 1, _, false, by have := HJK.out; omega, by go_num, rfl, HI2.out, N4.out, B4.out⟩
      · have HN := Lib.hid (more_no HXM.out hc1 HM.out)
        have bW : Hid (Below wr.heap.size wr (w1.alloc (.cells #[.slice none 0 0, .int .i64 0] 56))) := hb1.alloc hb1.size _
        clear hb1 hc1 H9 cx
        go_wp2_with fail
        go_roundg jj
        case measure => omega
        case rel => exact ⟨m + 1, R, A0, c0, by have := HMK.out; omega, by go_num, rfl, (HR.out.below bW.out).more bW.out.size, HS.out, by omega, HN.out, HB.out.trans (bW.out.mono hsz)⟩
end Go.Proofs.YtglidfmgechneaaGreatDoor
