/- PathTells walked. -/
import Derived.Test.YtoegmajkfaokdaaDoorFi
import Derived.Test.YtoegmajkfaokdaaDoorBk
import Derived.Deep.RegionHeld
namespace Go.Proofs.YtoegmajkfaokdaaDoor
open Go.RowKit

/-- The path that a text is, and whether. -/
noncomputable def parseOf (t : List UInt8) : List Int × Bool :=
  open Classical in if h : ∃ zs, IsPath t zs then (h.choose, true) else ([], false)
theorem parseOf_yes {t : List UInt8} {zs : List Int} (h : IsPath t zs) : parseOf t = (zs, true) := by
  have hx : ∃ zs, IsPath t zs := ⟨zs, h⟩
  unfold parseOf
  rw [dif_pos hx, hx.choose_spec.one h]
theorem parseOf_no {t : List UInt8} (h : ∀ zs, ¬ IsPath t zs) : parseOf t = ([], false) := by
  unfold parseOf
  rw [dif_neg (fun ⟨zs, hz⟩ => h zs hz)]
theorem parse_uni {w w' : World} {t : List UInt8} {e : Ending} {zs : List Int} {bb : Bool} (hz : parseOf t = (zs, bb)) (h : RetParse w t e w') : Below w.heap.size w w' ∧ ∃ A c, e = .returned (.tuple #[.slice A zs.length c, .bool bb]) ∧ PL w' A c zs ∧ zs.length ≤ 6 := by
  obtain ⟨hb, ⟨zs', v, hp, he, hr⟩ | ⟨hno, he⟩⟩ := h
  · rw [parseOf_yes hp] at hz
    injection hz with h1 h2
    subst h1 h2
    obtain ⟨A, c, rfl, hpl⟩ := hr.pl hp.1.wide
    exact ⟨hb, A, c, he, hpl, hp.1.1⟩
  · rw [parseOf_no hno] at hz
    injection hz with h1 h2
    subst h1 h2
    exact ⟨hb, none, 0, he, pl_nil _, by simp⟩

set_option maxRecDepth 100000 in
set_option maxHeartbeats 16000000 in
theorem pathTells_any {w : World} {A : Option Addr} {c : Nat} {p : List Int} {s : List UInt8} {n : Int} (he : Env w) (hp : PL w A c p) (hnw : -9223372036854775808 ≤ n ∧ n ≤ 9223372036854775807) :
    Calls Tryd.prog 3 #[.slice A p.length c, .string (str s), .int .i64 n] w (Fine w) := by
  have H8 := Lib.hid (first_any he)
  have HE := Lib.hid he
  have HP := Lib.hid hp
  have HNW := Lib.hid hnw
  obtain ⟨S, hS⟩ : ∃ S, S = str s := ⟨_, rfl⟩
  have hsz : S.size = s.length := by rw [hS]; exact str_size s
  have HSS := Lib.hid hS
  rw [← hS]
  clear he hp hS hnw
  go_enter Tryd.func3, Tryd.ntmps3
  go_wp2_with fail
  refine H8.out.mono ?_
  rintro e w1 ⟨rfl, hb1⟩
  have B1 := Lib.hid hb1
  clear hb1 H8
  by_cases hlen : 100 < p.length
  case pos =>
    go_wp2_with fail
    go_ret
    exact ⟨rfl, B1.out⟩
  by_cases hls : 300 < s.length
  case pos =>
    have hls2 : (300 : Int) < (S.size : Int) := by omega
    go_wp2_with fail
    go_ret
    exact ⟨rfl, B1.out⟩
  have hls2 : ¬ (300 : Int) < (S.size : Int) := by omega
  obtain ⟨⟨zs, bb⟩, hpo⟩ : ∃ x, parseOf s = x := ⟨_, rfl⟩
  have HPO := Lib.hid hpo
  have H9 := Lib.hid (parse_any (t := s) (HE.out.on B1.out) (by omega))
  rw [← HSS.out] at H9
  clear hpo hsz
  go_wp2_with fail
  refine H9.out.mono ?_
  intro e w2 hr2
  obtain ⟨hb2, A2, c2, rfl, hpl2, hz6⟩ := parse_uni HPO.out hr2
  have B2 : Hid (Below w.heap.size w w2) := B1.out.trans (hb2.mono B1.out.size)
  have X2 := Lib.hid hpl2
  have H10 := Lib.hid (refParse_any (w := w2) (s := s) (by omega))
  rw [← HSS.out] at H10
  clear hb2 hr2 hpl2 H9 B1
  go_wp2_with fail
  refine H10.out.mono ?_
  intro e w3 hr3
  obtain ⟨hb3, A3, c3, rfl, hpl3, _⟩ := parse_uni HPO.out hr3
  have B3 : Hid (Below w.heap.size w w3) := B2.out.trans (hb3.mono B2.out.size)
  have X3 := Lib.hid (X2.out.on hb3)
  have Y3 := Lib.hid hpl3
  have P3 := Lib.hid (HP.out.on B3.out)
  have H11 := Lib.hid (right_any (c := c) P3.out.zs)
  have H12 := Lib.hid (refRight_any (c := c) P3.out.zs (by omega))
  have H13 := Lib.hid (text_any (c := c) (HE.out.on B3.out) P3.out.zs P3.out.wide (by omega))
  have H14 : Hid (∀ W, Below w3.heap.size w3 W → Calls Tryd.prog 14 #[.slice A p.length c] W fun e w' => e = .returned (.string (str (zText p))) ∧ W = w') := fun W hb => refText_any (P3.out.on hb).zs P3.out.wide (by omega)
  have H15 : Hid (∀ W, Below w3.heap.size w3 W → Calls Tryd.prog 15 #[.slice A2 zs.length c2, .slice A3 zs.length c3] W (RetB W (.bool true))) := fun W hb => by
    have := same_any (c := c2) (c' := c3) (X3.out.on hb).zs (Y3.out.on hb).zs (by omega)
    rwa [decide_eq_true rfl] at this
  obtain ⟨ok, hok⟩ : ∃ ok, ok = decide (PathOk p) := ⟨_, rfl⟩
  rw [← hok] at H11 H12
  obtain ⟨T, hT⟩ : ∃ T, T = str (zText p) := ⟨_, rfl⟩
  rw [← hT] at H13 H14
  have q1 : (ok != ok) = false := by simp
  have q2 : (T.toList == T.toList) = true := by simp
  have q3 : (bb != bb) = false := by simp
  clear hr3 hb3 hpl3 H10 B2 X2 hok hT
  go_wp2_with fail
  refine H11.out.mono ?_
  rintro e w' ⟨rfl, rfl⟩
  go_wp2_with fail
  refine H12.out.mono ?_
  rintro e w' ⟨rfl, rfl⟩
  go_wp2_with fail
  refine H13.out.mono ?_
  rintro e w4 ⟨rfl, hb4⟩
  have H14' := Lib.hid (H14.out w4 hb4)
  have H15' := Lib.hid (H15.out w4 hb4)
  have B4 : Hid (Below w.heap.size w w4) := B3.out.trans (hb4.mono B3.out.size)
  clear hb4 H11 H12 H13 H14 H15 X3 Y3 P3 B3
  go_wp2_with fail
  refine H14'.out.mono ?_
  rintro e w' ⟨rfl, rfl⟩
  go_wp2_with fail
  refine H15'.out.mono ?_
  rintro e w5 ⟨rfl, hb5⟩
  have B5 : Hid (Below w.heap.size w w5) := B4.out.trans (hb5.mono B4.out.size)
  have P5 := Lib.hid (HP.out.on B5.out)
  have H16 := Lib.hid (parent_any P5.out (by omega))
  clear hb5 H14' H15' B4
  go_wp2_with fail
  refine H16.out.mono ?_
  rintro e w6 ⟨hb6, hpar⟩
  have B6 : Hid (Below w.heap.size w w6) := B5.out.trans (hb6.mono B5.out.size)
  have P6 := Lib.hid (HP.out.on B6.out)
  clear hb6 H16 B5 P5
  rcases hpar with ⟨hnil, rfl⟩ | ⟨ys, z, v6, hyz, rfl, hr6⟩
  · have hl0 : p.length = 0 := by rw [hnil]; rfl
    have H17 := Lib.hid (child_any (n := n) P6.out (by omega))
    rw [hl0] at H17 ⊢
    have HL0 := Lib.hid hl0
    clear hnil hl0
    go_wp2_with fail
    refine H17.out.mono ?_
    rintro e w8 ⟨hb8, hch⟩
    have B8 : Hid (Below w.heap.size w w8) := B6.out.trans (hb8.mono B6.out.size)
    obtain ⟨L, hL⟩ : ∃ L, L = p ++ [n] := ⟨_, rfl⟩
    have hLb : L.length ≤ 200 := by
      have : L.length = p.length + 1 := by rw [hL, List.length_append]; rfl
      omega
    have HWL : Hid (WideZ L) := fun y hy => by
      rw [hL] at hy
      rcases List.mem_append.1 hy with h | h
      · exact HP.out.wide y h
      · simp at h; rw [h]; exact HNW.out
    have HL := Lib.hid hL
    rw [← hL] at hch
    obtain ⟨may, C, cc, cl, hmay, rfl, hcx, hcl⟩ : ∃ (may : Bool) (C : Option Addr) (cc cl : Nat), may = decide (PathOk L) ∧ e = .returned (.tuple #[.slice C cl cc, .bool may]) ∧ (may = true → cl = L.length ∧ PL w8 C cc L) ∧ (may = false → cl = 0) := by
      rcases hch with ⟨h1, v, h2, h3⟩ | ⟨h1, h2⟩
      · obtain ⟨C, cc, rfl, h4⟩ := h3.pl HWL.out
        exact ⟨true, C, cc, L.length, (decide_eq_true h1).symm, h2, fun _ => ⟨rfl, h4⟩, fun h => (by cases h)⟩
      · exact ⟨false, none, 0, 0, (decide_eq_false h1).symm, h2, fun h => (by cases h), fun _ => rfl⟩
    have HMAY := Lib.hid hmay
    have HCX := Lib.hid hcx
    have HCL := Lib.hid hcl
    clear hch hb8 H17 hmay hcx hcl hL
    -- x
    have P8 := Lib.hid (HP.out.on B8.out)
    have hr0 : Hid (ZRow (w8.alloc (.cells #[] 3)) w8.heap.size (.slice (some ⟨w8.heap.size, 0, none⟩) 0 0) []) := World.ownsRow_lit (base := w8.heap.size) w8 #[] 0 (Nat.le_refl _) (by unfold maxLen; omega) rfl
    have hal : Hid (Below w8.heap.size w8 (w8.alloc (.cells #[] 3))) := (Below.refl _ _).alloc (Nat.le_refl _) _
    have hzp : Hid (Zs (w8.alloc (.cells #[] 3)) w8.heap.size A p) := P8.out.zs.below hal.out
    have hle0 : ([] : List Int).length + p.length ≤ 1000001 := by simp; omega
    have hsz0 : w8.heap.size ≤ (w8.alloc (.cells #[] 3)).heap.size := by simp
    have HPE : Hid ((Value.slice A 0 c) = .slice A p.length c) := by rw [Hid, HL0.out]
    go_wp2_with (at_builtin; refine wpList_append_zs rfl _ _ rfl w8.heap.size _ [] rfl hr0.out w8.heap.size A c p HPE.out hzp.out P8.out.nil hle0 hsz0 ?_)
    intro v9 w9 hr9 hb9
    have B9 : Hid (Below w8.heap.size w8 w9) := hal.out.trans hb9
    have R9 : Hid (ZRow w9 w8.heap.size v9 p) := hr9
    have hs9 := B9.out.size
    have hle1 : p.length + 1 ≤ 1000001 := by omega
    have hsz1 : w8.heap.size ≤ (w9.alloc (.cells #[.int .i64 n] 3)).heap.size := by simp; omega
    clear hr9 hb9 hr0 hal hzp HPE
    go_wp2_with (at_builtin; refine wpList_append_z rfl _ _ rfl w8.heap.size _ p rfl (World.ownsRow.alloc R9.out _) ⟨w9.heap.size, 0, none⟩ n rfl (cell_one_new _ _ _) hle1 hsz1 ?_)
    intro v10 w10 hr10 hb10
    rw [← HL.out] at hr10
    obtain ⟨X, cx, rfl, hplx⟩ := hr10.pl HWL.out
    have B10 : Hid (Below w8.heap.size w8 w10) := (B9.out.alloc hs9 _).trans hb10
    have PX := Lib.hid hplx
    clear hr10 hb10 hplx R9 B9
    -- the pen
    obtain ⟨N, hN⟩ : ∃ N, N = w10.heap.size := ⟨_, rfl⟩
    obtain ⟨W11, hW11⟩ : ∃ W11, W11 = w10.alloc (.cells #[.slice none 0 0] 35) := ⟨_, rfl⟩
    have hb11 : Below N w10 W11 := by rw [hW11, hN]; exact (Below.refl _ _).alloc (Nat.le_refl _) _
    have hs11 : N ≤ W11.heap.size := by rw [hN]; exact hb11.size
    have hp11 : PenB W11 N N [] := by rw [hW11, hN]; exact pen_made w10
    have P10 := P8.out.on B10.out
    have hA11 : Zs w10 N A p := by rw [hN]; exact P10.zs
    have H18 := put_any (c := c) hp11 hs11 (hA11.below hb11) (by omega)
    rw [HL0.out] at H18
    have H18 := Lib.hid H18
    have HW11 := Lib.hid hW11
    have HN := Lib.hid hN
    have B11 := Lib.hid hb11
    clear hW11 hN hb11 hs11 hp11 hA11 P10
    go_wp2_with fail
    rw [← HW11.out, ← HN.out]
    refine H18.out.mono ?_
    rintro e wb ⟨rfl, hpen, hb12⟩
    have hBN := B11.out.trans hb12
    have Bx : Below w10.heap.size w10 wb := by rw [HN.out] at hBN; exact hBN
    have BW : Hid (Below w.heap.size w wb) := (B8.out.trans (B10.out.mono B8.out.size)).trans (Bx.mono (Nat.le_trans B8.out.size B10.out.size))
    have BC : Hid (Below w8.heap.size w8 wb) := B10.out.trans (Bx.mono B10.out.size)
    have PXb := Lib.hid (PX.out.on Bx)
    have Pb := Lib.hid (HP.out.on BW.out)
    have HPEN := Lib.hid hpen
    have hzl : (zBytes p).length ≤ 900000 := by have := zBytes_len (zs := p) (by omega); omega
    obtain ⟨lb, hlb⟩ : ∃ lb, lb = zBytes p := ⟨_, rfl⟩
    rw [← hlb] at hzl HPEN
    have HLB := Lib.hid hlb
    clear hpen hb12 hBN Bx H18 PX B10 B11 HW11 HN hlb
    have H12 : Hid (∀ W, Below wb.heap.size wb W → Calls Tryd.prog 12 #[.slice X L.length cx] W fun e w' => e = .returned (.bool may) ∧ Below wb.heap.size wb w') := fun W h => by
      rw [HMAY.out]
      exact (refRight_any (PXb.out.on h).zs (by omega)).mono fun e w' h2 => ⟨h2.1, by rw [← h2.2]; exact h⟩
    have H15 : Hid (may = true → cl = L.length ∧ ∀ W, Below wb.heap.size wb W → Calls Tryd.prog 15 #[.slice C L.length cc, .slice X L.length cx] W fun e w' => e = .returned (.bool true) ∧ Below wb.heap.size wb w') := fun hm => ⟨(HCX.out hm).1, fun W h => by
      have h1 := (same_any (c := cc) (c' := cx) (((HCX.out hm).2.on BC.out).on h).zs (PXb.out.on h).zs (by omega)).mono fun e w' (h2 : RetB W _ e w') => (⟨h2.1, h.trans (h2.2.mono h.size)⟩ : e = .returned (.bool (decide (L = L))) ∧ Below wb.heap.size wb w')
      rwa [decide_eq_true rfl] at h1⟩
    have H19 : Hid (∀ W, Below wb.heap.size wb W → Calls Tryd.prog 19 #[.pointer (some ⟨N, 0, none⟩)] W fun e w' => ∃ A' c', e = .returned (.slice A' lb.length c') ∧ Tp.Bts w' w'.heap.size A' lb ∧ Below wb.heap.size wb w') := fun W h => by
      obtain ⟨k, hk, _, _⟩ := HPEN.out.kept h
      exact (Tp.pen_bytes hk hzl).mono fun e w' ⟨A', c', h1, h2, _, _, _, _, h3⟩ => ⟨A', c', h1, h2, h.trans (h3.mono h.size)⟩
    obtain ⟨PS, hPS⟩ : ∃ PS, PS = Tp.str lb := ⟨_, rfl⟩
    have H20 : Hid (∀ W, Below wb.heap.size wb W → Calls Tryd.prog 20 #[.slice A 0 c] W fun e w' => e = .returned (.string PS) ∧ Below W.heap.size W w' ∧ Below wb.heap.size wb w') := fun W h => by
      rw [hPS, HLB.out, ← HL0.out]
      exact (refPut_any (Pb.out.on h).zs (by omega)).mono fun e w' h2 => ⟨h2.1, h2.2, h.trans (h2.2.mono h.size)⟩
    have HCV : Hid (∀ (W : World) (B : Nat) (A' : Option Addr) (c' : Nat), Tp.Bts W B A' lb → (convert 33 9 (.slice A' lb.length c')).run Tryd.prog W = .ok (.string PS) W) := fun W B A' c' h => by
      rw [hPS]
      exact Tp.conv_str h c'
    obtain ⟨nb, hnb⟩ : ∃ nb, nb = lb.length := ⟨_, rfl⟩
    rw [← hnb] at H19 HCV
    have qm : (may == may) = true := by simp
    have qs : (PS.toList == PS.toList) = true := by simp
    clear hPS hnb hzl PXb Pb HPEN HLB BC P8 HCX HMAY
    cases may with
    | true =>
      obtain ⟨hcl, H15t⟩ := H15.out rfl
      have H15t := Lib.hid H15t
      rw [hcl]
      clear hcl H15 qm HCL
      go_wp2_with fail
      first
        | go_region_held (fun _ => True) (first | exact trivial | go_keep) (first
            | (go_at_call 12; refine (H12.out _ (Below.refl _ _).drew).mono ?_; rintro e W1 ⟨rfl, hB1⟩)
            | (go_at_call 15; refine (H15t.out _ hB1).mono ?_; rintro e W2 ⟨rfl, hB2⟩)
            | (go_at_call 19; refine (H19.out _ hB2).mono ?_; rintro e W10 ⟨A9, c9, rfl, hbt, hB10⟩; have cv9 := HCV.out _ _ _ c9 hbt)
            | (go_at_call 20; refine (H20.out _ hB10).mono ?_; rintro e W11' ⟨rfl, hloc, hB11⟩; have cv10 := HCV.out _ _ _ c9 (hbt.below hloc)))
        | fail
      all_goals (
        have BF : Hid (Below w.heap.size w W11') := BW.out.trans (hB11.mono BW.out.size)
        clear hB1 hB2 hB10 hB11 hbt hloc cv9 cv10 H12 H15t H19 H20 HCV
        go_wp2_with fail
        go_ret
        exact ⟨by simp, BF.out⟩)
    | false =>
      have hcl := HCL.out rfl
      subst hcl
      clear H15 qm HCL
      go_wp2_with fail
      first
        | go_region_held (fun _ => True) (first | exact trivial | go_keep) (first
            | (go_at_call 12; refine (H12.out _ (Below.refl _ _).drew).mono ?_; rintro e W1 ⟨rfl, hB1⟩)
            | (go_at_call 19; refine (H19.out _ hB1).mono ?_; rintro e W10 ⟨A9, c9, rfl, hbt, hB10⟩; have cv9 := HCV.out _ _ _ c9 hbt)
            | (go_at_call 20; refine (H20.out _ hB10).mono ?_; rintro e W11' ⟨rfl, hloc, hB11⟩; have cv10 := HCV.out _ _ _ c9 (hbt.below hloc)))
        | fail
      all_goals (
        have BF : Hid (Below w.heap.size w W11') := BW.out.trans (hB11.mono BW.out.size)
        clear hB1 hB10 hB11 hbt hloc cv9 cv10 H12 H19 H20 HCV
        go_wp2_with fail
        go_ret
        exact ⟨by simp, BF.out⟩)
  · have hlm : p.length = ys.length + 1 := by rw [hyz]; simp
    obtain ⟨b, o, hA, hbl, hcell⟩ := P6.out.zs (by omega)
    subst hA
    have cz := hcell ys.length z (by rw [hyz]; simp)
    have hcap := P6.out.cap
    have hty : p.take ys.length = ys := by rw [hyz]; simp
    have hyl : ys.length ≤ 100 := by omega
    have hsl := slice_to22 ⟨b, o, none⟩ (ys.length + 1) ys.length c (by omega)
    have hwy : WideZ ys := by rw [← hty]; exact HP.out.wide.take _
    obtain ⟨U, cu, rfl, hplu⟩ := hr6.pl hwy
    have H15 : Hid (Calls Tryd.prog 15 #[.slice U ys.length cu, .slice (some ⟨b, o, none⟩) ys.length c] w6 (RetB w6 (.bool true))) := by
      have h1 := P6.out.zs.take ys.length
      rw [hty] at h1
      have := same_any (c := cu) (c' := c) hplu.zs h1 (by omega)
      rwa [decide_eq_true rfl] at this
    obtain ⟨m, hm⟩ : ∃ m, m = ys.length := ⟨_, rfl⟩
    have hm100 : m ≤ 100 := by omega
    have hlm2 : p.length = m + 1 := by omega
    have HLM := Lib.hid hlm2
    rw [← hm] at H15 hsl cz
    have hmc : m + 1 ≤ c := by omega
    have r1 : (m : Int) < (m : Int) + 1 := by omega
    have r0 : (0 : Int) < (m : Int) + 1 := by omega
    have rz : (z != z) = false := by simp
    rw [hlm2, ← hm]
    clear hyz hr6 hlm hcell hty hwy hplu hyl hm hlm2 hcap hbl
    go_wp2_with fail
    refine H15.out.mono ?_
    rintro e w7 ⟨rfl, hb7⟩
    have B7 : Hid (Below w.heap.size w w7) := B6.out.trans (hb7.mono B6.out.size)
    have P7 := Lib.hid (HP.out.on B7.out)
    have H17 := Lib.hid (child_any (n := n) P7.out (by have := HLM.out; omega))
    rw [HLM.out] at H17
    clear hb7 H15 hsl cz B6 P6
    go_wp2_with fail
    refine H17.out.mono ?_
    rintro e w8 ⟨hb8, hch⟩
    have B8 : Hid (Below w.heap.size w w8) := B7.out.trans (hb8.mono B7.out.size)
    obtain ⟨L, hL⟩ : ∃ L, L = p ++ [n] := ⟨_, rfl⟩
    have hLb : L.length ≤ 200 := by
      have : L.length = p.length + 1 := by rw [hL, List.length_append]; rfl
      omega
    have HWL : Hid (WideZ L) := fun y hy => by
      rw [hL] at hy
      rcases List.mem_append.1 hy with h | h
      · exact HP.out.wide y h
      · simp at h; rw [h]; exact HNW.out
    have HL := Lib.hid hL
    rw [← hL] at hch
    obtain ⟨may, C, cc, cl, hmay, rfl, hcx, hcl⟩ : ∃ (may : Bool) (C : Option Addr) (cc cl : Nat), may = decide (PathOk L) ∧ e = .returned (.tuple #[.slice C cl cc, .bool may]) ∧ (may = true → cl = L.length ∧ PL w8 C cc L) ∧ (may = false → cl = 0) := by
      rcases hch with ⟨h1, v, h2, h3⟩ | ⟨h1, h2⟩
      · obtain ⟨C, cc, rfl, h4⟩ := h3.pl HWL.out
        exact ⟨true, C, cc, L.length, (decide_eq_true h1).symm, h2, fun _ => ⟨rfl, h4⟩, fun h => (by cases h)⟩
      · exact ⟨false, none, 0, 0, (decide_eq_false h1).symm, h2, fun h => (by cases h), fun _ => rfl⟩
    have HMAY := Lib.hid hmay
    have HCX := Lib.hid hcx
    have HCL := Lib.hid hcl
    clear hch hb8 H17 hmay hcx hcl hL
    -- x
    have P8 := Lib.hid (HP.out.on B8.out)
    have hr0 : Hid (ZRow (w8.alloc (.cells #[] 3)) w8.heap.size (.slice (some ⟨w8.heap.size, 0, none⟩) 0 0) []) := World.ownsRow_lit (base := w8.heap.size) w8 #[] 0 (Nat.le_refl _) (by unfold maxLen; omega) rfl
    have hal : Hid (Below w8.heap.size w8 (w8.alloc (.cells #[] 3))) := (Below.refl _ _).alloc (Nat.le_refl _) _
    have hzp : Hid (Zs (w8.alloc (.cells #[] 3)) w8.heap.size (some ⟨b, o, none⟩) p) := P8.out.zs.below hal.out
    have hle0 : ([] : List Int).length + p.length ≤ 1000001 := by simp; omega
    have hsz0 : w8.heap.size ≤ (w8.alloc (.cells #[] 3)).heap.size := by simp
    have HPE : Hid ((Value.slice (some ⟨b, o, none⟩) (m + 1) c) = .slice (some ⟨b, o, none⟩) p.length c) := by rw [Hid, HLM.out]
    go_wp2_with (at_builtin; refine wpList_append_zs rfl _ _ rfl w8.heap.size _ [] rfl hr0.out w8.heap.size (some ⟨b, o, none⟩) c p HPE.out hzp.out P8.out.nil hle0 hsz0 ?_)
    intro v9 w9 hr9 hb9
    have B9 : Hid (Below w8.heap.size w8 w9) := hal.out.trans hb9
    have R9 : Hid (ZRow w9 w8.heap.size v9 p) := hr9
    have hs9 := B9.out.size
    have hle1 : p.length + 1 ≤ 1000001 := by omega
    have hsz1 : w8.heap.size ≤ (w9.alloc (.cells #[.int .i64 n] 3)).heap.size := by simp; omega
    clear hr9 hb9 hr0 hal hzp HPE
    go_wp2_with (at_builtin; refine wpList_append_z rfl _ _ rfl w8.heap.size _ p rfl (World.ownsRow.alloc R9.out _) ⟨w9.heap.size, 0, none⟩ n rfl (cell_one_new _ _ _) hle1 hsz1 ?_)
    intro v10 w10 hr10 hb10
    rw [← HL.out] at hr10
    obtain ⟨X, cx, rfl, hplx⟩ := hr10.pl HWL.out
    have B10 : Hid (Below w8.heap.size w8 w10) := (B9.out.alloc hs9 _).trans hb10
    have PX := Lib.hid hplx
    clear hr10 hb10 hplx R9 B9
    -- the pen
    obtain ⟨N, hN⟩ : ∃ N, N = w10.heap.size := ⟨_, rfl⟩
    obtain ⟨W11, hW11⟩ : ∃ W11, W11 = w10.alloc (.cells #[.slice none 0 0] 35) := ⟨_, rfl⟩
    have hb11 : Below N w10 W11 := by rw [hW11, hN]; exact (Below.refl _ _).alloc (Nat.le_refl _) _
    have hs11 : N ≤ W11.heap.size := by rw [hN]; exact hb11.size
    have hp11 : PenB W11 N N [] := by rw [hW11, hN]; exact pen_made w10
    have P10 := P8.out.on B10.out
    have hA11 : Zs w10 N (some ⟨b, o, none⟩) p := by rw [hN]; exact P10.zs
    have H18 := put_any (c := c) hp11 hs11 (hA11.below hb11) (by omega)
    rw [HLM.out] at H18
    have H18 := Lib.hid H18
    have HW11 := Lib.hid hW11
    have HN := Lib.hid hN
    have B11 := Lib.hid hb11
    clear hW11 hN hb11 hs11 hp11 hA11 P10
    go_wp2_with fail
    rw [← HW11.out, ← HN.out]
    refine H18.out.mono ?_
    rintro e wb ⟨rfl, hpen, hb12⟩
    have hBN := B11.out.trans hb12
    have Bx : Below w10.heap.size w10 wb := by rw [HN.out] at hBN; exact hBN
    have BW : Hid (Below w.heap.size w wb) := (B8.out.trans (B10.out.mono B8.out.size)).trans (Bx.mono (Nat.le_trans B8.out.size B10.out.size))
    have BC : Hid (Below w8.heap.size w8 wb) := B10.out.trans (Bx.mono B10.out.size)
    have PXb := Lib.hid (PX.out.on Bx)
    have Pb := Lib.hid (HP.out.on BW.out)
    have HPEN := Lib.hid hpen
    have hzl : (zBytes p).length ≤ 900000 := by have := zBytes_len (zs := p) (by omega); omega
    obtain ⟨lb, hlb⟩ : ∃ lb, lb = zBytes p := ⟨_, rfl⟩
    rw [← hlb] at hzl HPEN
    have HLB := Lib.hid hlb
    clear hpen hb12 hBN Bx H18 PX B10 B11 HW11 HN hlb
    have H12 : Hid (∀ W, Below wb.heap.size wb W → Calls Tryd.prog 12 #[.slice X L.length cx] W fun e w' => e = .returned (.bool may) ∧ Below wb.heap.size wb w') := fun W h => by
      rw [HMAY.out]
      exact (refRight_any (PXb.out.on h).zs (by omega)).mono fun e w' h2 => ⟨h2.1, by rw [← h2.2]; exact h⟩
    have H15 : Hid (may = true → cl = L.length ∧ ∀ W, Below wb.heap.size wb W → Calls Tryd.prog 15 #[.slice C L.length cc, .slice X L.length cx] W fun e w' => e = .returned (.bool true) ∧ Below wb.heap.size wb w') := fun hm => ⟨(HCX.out hm).1, fun W h => by
      have h1 := (same_any (c := cc) (c' := cx) (((HCX.out hm).2.on BC.out).on h).zs (PXb.out.on h).zs (by omega)).mono fun e w' (h2 : RetB W _ e w') => (⟨h2.1, h.trans (h2.2.mono h.size)⟩ : e = .returned (.bool (decide (L = L))) ∧ Below wb.heap.size wb w')
      rwa [decide_eq_true rfl] at h1⟩
    have H19 : Hid (∀ W, Below wb.heap.size wb W → Calls Tryd.prog 19 #[.pointer (some ⟨N, 0, none⟩)] W fun e w' => ∃ A' c', e = .returned (.slice A' lb.length c') ∧ Tp.Bts w' w'.heap.size A' lb ∧ Below wb.heap.size wb w') := fun W h => by
      obtain ⟨k, hk, _, _⟩ := HPEN.out.kept h
      exact (Tp.pen_bytes hk hzl).mono fun e w' ⟨A', c', h1, h2, _, _, _, _, h3⟩ => ⟨A', c', h1, h2, h.trans (h3.mono h.size)⟩
    obtain ⟨PS, hPS⟩ : ∃ PS, PS = Tp.str lb := ⟨_, rfl⟩
    have H20 : Hid (∀ W, Below wb.heap.size wb W → Calls Tryd.prog 20 #[.slice (some ⟨b, o, none⟩) (m + 1) c] W fun e w' => e = .returned (.string PS) ∧ Below W.heap.size W w' ∧ Below wb.heap.size wb w') := fun W h => by
      rw [hPS, HLB.out, ← HLM.out]
      exact (refPut_any (Pb.out.on h).zs (by omega)).mono fun e w' h2 => ⟨h2.1, h2.2, h.trans (h2.2.mono h.size)⟩
    have HCV : Hid (∀ (W : World) (B : Nat) (A' : Option Addr) (c' : Nat), Tp.Bts W B A' lb → (convert 33 9 (.slice A' lb.length c')).run Tryd.prog W = .ok (.string PS) W) := fun W B A' c' h => by
      rw [hPS]
      exact Tp.conv_str h c'
    obtain ⟨nb, hnb⟩ : ∃ nb, nb = lb.length := ⟨_, rfl⟩
    rw [← hnb] at H19 HCV
    have qm : (may == may) = true := by simp
    have qs : (PS.toList == PS.toList) = true := by simp
    clear hPS hnb hzl PXb Pb HPEN HLB BC P8 HCX HMAY
    cases may with
    | true =>
      obtain ⟨hcl, H15t⟩ := H15.out rfl
      have H15t := Lib.hid H15t
      rw [hcl]
      clear hcl H15 qm HCL
      go_wp2_with fail
      first
        | go_region_held (fun _ => True) (first | exact trivial | go_keep) (first
            | (go_at_call 12; refine (H12.out _ (Below.refl _ _).drew).mono ?_; rintro e W1 ⟨rfl, hB1⟩)
            | (go_at_call 15; refine (H15t.out _ hB1).mono ?_; rintro e W2 ⟨rfl, hB2⟩)
            | (go_at_call 19; refine (H19.out _ hB2).mono ?_; rintro e W10 ⟨A9, c9, rfl, hbt, hB10⟩; have cv9 := HCV.out _ _ _ c9 hbt)
            | (go_at_call 20; refine (H20.out _ hB10).mono ?_; rintro e W11' ⟨rfl, hloc, hB11⟩; have cv10 := HCV.out _ _ _ c9 (hbt.below hloc)))
        | fail
      all_goals (
        have BF : Hid (Below w.heap.size w W11') := BW.out.trans (hB11.mono BW.out.size)
        clear hB1 hB2 hB10 hB11 hbt hloc cv9 cv10 H12 H15t H19 H20 HCV
        go_wp2_with fail
        go_ret
        exact ⟨by simp, BF.out⟩)
    | false =>
      have hcl := HCL.out rfl
      subst hcl
      clear H15 qm HCL
      go_wp2_with fail
      first
        | go_region_held (fun _ => True) (first | exact trivial | go_keep) (first
            | (go_at_call 12; refine (H12.out _ (Below.refl _ _).drew).mono ?_; rintro e W1 ⟨rfl, hB1⟩)
            | (go_at_call 19; refine (H19.out _ hB1).mono ?_; rintro e W10 ⟨A9, c9, rfl, hbt, hB10⟩; have cv9 := HCV.out _ _ _ c9 hbt)
            | (go_at_call 20; refine (H20.out _ hB10).mono ?_; rintro e W11' ⟨rfl, hloc, hB11⟩; have cv10 := HCV.out _ _ _ c9 (hbt.below hloc)))
        | fail
      all_goals (
        have BF : Hid (Below w.heap.size w W11') := BW.out.trans (hB11.mono BW.out.size)
        clear hB1 hB10 hB11 hbt hloc cv9 cv10 H12 H19 H20 HCV
        go_wp2_with fail
        go_ret
        exact ⟨by simp, BF.out⟩)
end Go.Proofs.YtoegmajkfaokdaaDoor
