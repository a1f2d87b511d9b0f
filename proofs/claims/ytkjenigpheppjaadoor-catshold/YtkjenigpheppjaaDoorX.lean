/- CatsHold walked: it answers true. -/
import Derived.Test.YtkjenigpheppjaaDoorStr
import Derived.Test.YtkjenigpheppjaaDoorM
namespace Go.Proofs.YtkjenigpheppjaaDoor
open Go.RowKit

theorem ints_nats {zs : List Int} (h : ∀ z ∈ zs, 0 ≤ z) : ints (nats zs) = zs := by
  unfold ints nats
  rw [List.map_map]
  conv => rhs; rw [← List.map_id zs]
  refine List.map_congr_left fun z hz => ?_
  have := h z hz
  simp
  omega
/-- What is named is parsed again. -/
theorem parse_name {w : World} {zs : List Int} {n : Int} (h : Env w) (hok : CatOk zs n) : Calls Tryd.prog 8 #[.string (str (catText (nats zs) n.toNat))] w fun e w' => Below w.heap.size w w' ∧ ∃ A c, e = .returned (.tuple #[.slice A zs.length c, .int .i64 n, .bool true]) ∧ Ints w' w'.heap.size A zs := by
  have hz : ints (nats zs) = zs := ints_nats fun z hz => (hok.1.2 z hz).1
  have hf : Fits (nats zs) n.toNat := ok_ints.1 (by rw [hz]; have := hok.2; rw [Int.toNat_of_nonneg this.1]; exact hok)
  have hc := catOf_iff (x := (nats zs, n.toNat)).2 ⟨hf, rfl⟩
  refine (parse_any h (cat_len (by rw [hc]; rfl))).mono ?_
  rintro e w' ⟨hb, (⟨p, k, v, hc1, rfl, hrow, _⟩ | ⟨hc1, rfl⟩)⟩
  · rw [hc] at hc1
    injection hc1 with hc1
    injection hc1 with e1 e2
    subst e1 e2
    obtain ⟨A, c, rfl, hI⟩ := hrow.ints (fun u hu => by have := hf.1.2 u hu; omega)
    refine ⟨hb, A, c, ?_, by rwa [hz] at hI⟩
    have hl : (nats zs).length = zs.length := by simp [nats]
    rw [hl, Int.toNat_of_nonneg hok.2.1]
  · rw [hc] at hc1
    cases hc1

def HoldRel (w W : World) (zs : List Int) (k : Nat) (i : Value) (wr : World) : Prop :=
  ∃ m, m + k = zs.length ∧ i = .int .i64 (m : Int) ∧ Below w.heap.size w wr ∧ Below W.heap.size W wr

set_option maxRecDepth 100000 in
set_option maxHeartbeats 4000000 in
theorem hold_any (hf : ∀ W, Env W → Calls Tryd.prog 7 #[] W (Fine W)) {w : World} {a b d : List UInt8} {A : Option Addr} {c : Nat} {zs : List Int} {n : Int} (he : Env w) (hI : Ints w w.heap.size A zs) (hz : zs.length ≤ maxLen) (ha : a.length ≤ 140737488351232) (hb : b.length ≤ 140737488351232) (hd : d.length ≤ 140737488351232) :
    Calls Tryd.prog 5 #[.slice A zs.length c, .int .i64 n, .agg #[.string (str a), .string (str b), .string (str d)]] w (Fine w) := by
  have HE := Lib.hid he
  have HI := Lib.hid hI
  have HF := Lib.hid hf
  unfold maxLen at hz
  clear he hI hf
  obtain ⟨SA, hSA⟩ : ∃ S, S = str a := ⟨_, rfl⟩
  obtain ⟨SB, hSB⟩ : ∃ S, S = str b := ⟨_, rfl⟩
  obtain ⟨SC, hSC⟩ : ∃ S, S = str d := ⟨_, rfl⟩
  have hsa : SA.size = a.length := by rw [hSA, str_size]
  have hsb : SB.size = b.length := by rw [hSB, str_size]
  have hsc : SC.size = d.length := by rw [hSC, str_size]
  obtain ⟨za, hza⟩ : ∃ z, z = cmpC a b := ⟨_, rfl⟩
  obtain ⟨zb, hzb⟩ : ∃ z, z = cmpC b d := ⟨_, rfl⟩
  obtain ⟨zc, hzc⟩ : ∃ z, z = cmpC a d := ⟨_, rfl⟩
  have Cab : Hid (∀ W, Env W → a.length ≤ 300 → b.length ≤ 300 → Calls Tryd.prog 14 #[.string SA, .string SB] W (RetB W (.int .i64 za))) := fun W h l1 l2 => by rw [hSA, hSB, hza]; exact compare_any h (by omega) (by omega)
  have Cbc : Hid (∀ W, Env W → b.length ≤ 300 → d.length ≤ 300 → Calls Tryd.prog 14 #[.string SB, .string SC] W (RetB W (.int .i64 zb))) := fun W h l1 l2 => by rw [hSC, hSB, hzb]; exact compare_any h (by omega) (by omega)
  have Cac : Hid (∀ W, Env W → a.length ≤ 300 → d.length ≤ 300 → Calls Tryd.prog 14 #[.string SA, .string SC] W (RetB W (.int .i64 zc))) := fun W h l1 l2 => by rw [hSA, hSC, hzc]; exact compare_any h (by omega) (by omega)
  have Cba : Hid (∀ W, Env W → b.length ≤ 300 → a.length ≤ 300 → Calls Tryd.prog 14 #[.string SB, .string SA] W (RetB W (.int .i64 (-za)))) := fun W h l1 l2 => by rw [hSA, hSB, hza, ← tot_cmpC.neg a b]; exact compare_any h (by omega) (by omega)
  have HZ : Hid (za = -1 ∨ za = 0 ∨ za = 1) := by rw [hza]; exact tot_cmpC.one a b
  have HQ : Hid (a = b ↔ za = 0) := by rw [hza]; exact (tot_cmpC.eq a b).symm
  have HTr : Hid (za ≤ 0 → zb ≤ 0 → zc ≤ 0) := by rw [hza, hzb, hzc]; exact tot_cmpC.trans a b d
  have HEq : Hid (∀ {c : Bool}, ((a = b) ↔ c = true) → (SA.toList == SB.toList) = c) := fun {c} h => by
    rw [hSA, hSB]
    cases c with
    | true => exact str_same (h.2 rfl)
    | false => exact str_differs fun e => by have := h.1 e; cases this
  rw [← hSA, ← hSB, ← hSC]
  clear hSA hSB hSC hza hzb hzc
  go_enter Tryd.func5, Tryd.ntmps5
  go_wp2_with fail
  have B0 : Hid (Below w.heap.size w (w.alloc (.cells #[.string SA, .string SB, .string SC] 40))) := (Below.refl _ _).alloc (Nat.le_refl _) _
  refine (HF.out _ (HE.out.on B0.out)).mono ?_
  rintro e w1 ⟨rfl, hb1⟩
  have B1 := Lib.hid (B0.out.trans (hb1.mono B0.out.size))
  have E1 := Lib.hid (HE.out.on B1.out)
  have q0 : w1.cell? ⟨w.heap.size, 0, none⟩ = some (.string SA) := (hb1.cell (p := ⟨w.heap.size, 0, none⟩) (by simp)).trans (by simp)
  have q1 : w1.cell? ⟨w.heap.size, 1, none⟩ = some (.string SB) := (hb1.cell (p := ⟨w.heap.size, 1, none⟩) (by simp)).trans (by simp)
  have q2 : w1.cell? ⟨w.heap.size, 2, none⟩ = some (.string SC) := (hb1.cell (p := ⟨w.heap.size, 2, none⟩) (by simp)).trans (by simp)
  have Q0 := Lib.hid q0
  have Q1 := Lib.hid q1
  have Q2 := Lib.hid q2
  clear hb1
  by_cases h1 : 100 < zs.length
  · go_wp2_with fail
    go_ret
    exact ⟨rfl, B1.out⟩
  by_cases h2 : 300 < a.length + b.length
  · go_wp2_with fail
    go_ret
    exact ⟨rfl, B1.out⟩
  by_cases h3 : 300 < d.length
  · go_wp2_with fail
    go_ret
    exact ⟨rfl, B1.out⟩
  have h1' : a.length ≤ 300 := by omega
  have h2' : b.length ≤ 300 := by omega
  have h3' : d.length ≤ 300 := by omega
  have hg1 := World.block_lt_of_cell? w1 _ q0
  have I1 := Lib.hid ((HI.out.below B1.out).more B1.out.size)
  have H11 := Lib.hid (name_any (c := c) (n := n) E1.out I1.out (by omega))
  by_cases hok : CatOk zs n
  · have e1 : nameOf zs n = .tuple #[.string (str (catText (nats zs) n.toNat)), .bool true] := if_pos hok
    rw [e1] at H11
    have HO := Lib.hid hok
    obtain ⟨T, hT⟩ : ∃ T, T = str (catText (nats zs) n.toNat) := ⟨_, rfl⟩
    rw [← hT] at H11
    have H8 : Hid (∀ W, Env W → Calls Tryd.prog 8 #[.string T] W fun e w' => Below W.heap.size W w' ∧ ∃ A c, e = .returned (.tuple #[.slice A zs.length c, .int .i64 n, .bool true]) ∧ Ints w' w'.heap.size A zs) := fun W h => by rw [hT]; exact parse_name h HO.out
    clear e1 hok hT
    go_wp2_with fail
    refine H11.out.mono ?_
    rintro e w2 ⟨rfl, hb2⟩
    have B2 := Lib.hid (B1.out.trans (hb2.mono B1.out.size))
    have b12 := Lib.hid hb2
    have E2 := Lib.hid (HE.out.on B2.out)
    clear hb2 H11 q0 q1 q2
    go_wp2_with fail
    refine (H8.out w2 E2.out).mono ?_
    rintro e w3 ⟨hb3, A3, c3, rfl, hI3⟩
    have B3 := Lib.hid (B2.out.trans (hb3.mono B2.out.size))
    have b13 := Lib.hid (b12.out.trans (hb3.mono b12.out.size))
    have I3 := Lib.hid hI3
    have J3 := Lib.hid ((HI.out.below B3.out).more B3.out.size)
    clear hb3 hI3 H8
    go_wp2_with fail
    go_loopg [66] zs.length (fun k i wr => HoldRel w w3 zs k i wr)
    case atStart => exact ⟨0, by simp, rfl, B3.out, Below.refl _ _⟩
    case round =>
      obtain ⟨m, hmk, hi, hb, hb'⟩ := hrel
      subst hi
      have BB := Lib.hid hb
      have BB' := Lib.hid hb'
      clear hb
      cases gk with
      | zero =>
        have hge : zs.length ≤ m := by omega
        have b1r := b13.out.trans (hb'.mono b13.out.size)
        clear hmk hb'
        go_wp2_with fail
        have R0 := Lib.hid ((b1r.cell (p := ⟨w.heap.size, 0, none⟩) hg1).trans Q0.out)
        have R1 := Lib.hid ((b1r.cell (p := ⟨w.heap.size, 1, none⟩) hg1).trans Q1.out)
        have r0 := (b1r.cell (p := ⟨w.heap.size, 0, none⟩) hg1).trans Q0.out
        have r1 := (b1r.cell (p := ⟨w.heap.size, 1, none⟩) hg1).trans Q1.out
        have r2 := (b1r.cell (p := ⟨w.heap.size, 2, none⟩) hg1).trans Q2.out
        have hg := World.block_lt_of_cell? wr _ r0
        have EW := Lib.hid (HE.out.on BB.out)
        have Hab : Hid (∀ W, Below wr.heap.size wr W → Calls Tryd.prog 14 #[.string SA, .string SB] W fun e w' => e = .returned (.int .i64 za) ∧ Below wr.heap.size wr w') := fun W hb => (Cab.out W (EW.out.on hb) h1' h2').mono fun e w' h => ⟨h.1, hb.trans (h.2.mono hb.size)⟩
        have Hbc : Hid (∀ W, Below wr.heap.size wr W → Calls Tryd.prog 14 #[.string SB, .string SC] W fun e w' => e = .returned (.int .i64 zb) ∧ Below wr.heap.size wr w') := fun W hb => (Cbc.out W (EW.out.on hb) h2' h3').mono fun e w' h => ⟨h.1, hb.trans (h.2.mono hb.size)⟩
        have Hac : Hid (∀ W, Below wr.heap.size wr W → Calls Tryd.prog 14 #[.string SA, .string SC] W fun e w' => e = .returned (.int .i64 zc) ∧ Below wr.heap.size wr w') := fun W hb => (Cac.out W (EW.out.on hb) h1' h3').mono fun e w' h => ⟨h.1, hb.trans (h.2.mono hb.size)⟩
        have Hba : Hid (∀ W, Below wr.heap.size wr W → Calls Tryd.prog 14 #[.string SB, .string SA] W fun e w' => e = .returned (.int .i64 (-za)) ∧ Below wr.heap.size wr w') := fun W hb => (Cba.out W (EW.out.on hb) h2' h1').mono fun e w' h => ⟨h.1, hb.trans (h.2.mono hb.size)⟩
        go_region_held3 (fun W => W.cell? ⟨w.heap.size, 0, none⟩ = some (.string SA) ∧ W.cell? ⟨w.heap.size, 1, none⟩ = some (.string SB) ∧ W.cell? ⟨w.heap.size, 2, none⟩ = some (.string SC))
          (first
            | go_keep
            | exact ⟨(hbC.cell (p := ⟨w.heap.size, 0, none⟩) hg).trans r0, (hbC.cell (p := ⟨w.heap.size, 1, none⟩) hg).trans r1, (hbC.cell (p := ⟨w.heap.size, 2, none⟩) hg).trans r2⟩
            | exact ⟨(hbB.cell (p := ⟨w.heap.size, 0, none⟩) hg).trans r0, (hbB.cell (p := ⟨w.heap.size, 1, none⟩) hg).trans r1, (hbB.cell (p := ⟨w.heap.size, 2, none⟩) hg).trans r2⟩
            | exact ⟨(hbA.cell (p := ⟨w.heap.size, 0, none⟩) hg).trans r0, (hbA.cell (p := ⟨w.heap.size, 1, none⟩) hg).trans r1, (hbA.cell (p := ⟨w.heap.size, 2, none⟩) hg).trans r2⟩)
          (first
            | (go_at_call 14; refine (Hac.out _ hbB).mono ?_; rintro e W3 ⟨rfl, hbC⟩)
            | (go_at_call 14; refine (Hbc.out _ hbA).mono ?_; rintro e W2 ⟨rfl, hbB⟩)
            | (go_at_call 14; refine (Hab.out _ (Below.refl _ _).drew).mono ?_; rintro e W1 ⟨rfl, hbA⟩))
        have HC := Lib.hid hbC
        have s0 := (hbC.cell (p := ⟨w.heap.size, 0, none⟩) hg).trans r0
        have s1 := (hbC.cell (p := ⟨w.heap.size, 1, none⟩) hg).trans r1
        have H14 := Lib.hid (Hba.out W3 hbC)
        clear hbA hbB hbC r0 r1 r2 Hab Hbc Hac Hba
        rcases HZ.out with rfl | rfl | rfl
        · have hq := HEq.out (c := false) (by simp [HQ.out])
          rcases Int.lt_or_le 0 zb with hzb | hzb
          · go_wp2_with fail
            refine H14.out.mono ?_
            rintro e W4 ⟨rfl, hb4⟩
            have H4 := Lib.hid (BB.out.trans (hb4.mono BB.out.size))
            have t0 := (hb4.cell (p := ⟨w.heap.size, 0, none⟩) hg).trans R0.out
            have t1 := (hb4.cell (p := ⟨w.heap.size, 1, none⟩) hg).trans R1.out
            clear hb4 H14 s0 s1
            go_wp2_with fail
            go_ret
            exact ⟨rfl, H4.out⟩
          · have hzc := HTr.out (by omega) hzb
            go_wp2_with fail
            refine H14.out.mono ?_
            rintro e W4 ⟨rfl, hb4⟩
            have H4 := Lib.hid (BB.out.trans (hb4.mono BB.out.size))
            have t0 := (hb4.cell (p := ⟨w.heap.size, 0, none⟩) hg).trans R0.out
            have t1 := (hb4.cell (p := ⟨w.heap.size, 1, none⟩) hg).trans R1.out
            clear hb4 H14 s0 s1
            go_wp2_with fail
            go_ret
            exact ⟨rfl, H4.out⟩
        · have hq := HEq.out (c := true) (by simp [HQ.out])
          rcases Int.lt_or_le 0 zb with hzb | hzb
          · go_wp2_with fail
            refine H14.out.mono ?_
            rintro e W4 ⟨rfl, hb4⟩
            have H4 := Lib.hid (BB.out.trans (hb4.mono BB.out.size))
            have t0 := (hb4.cell (p := ⟨w.heap.size, 0, none⟩) hg).trans R0.out
            have t1 := (hb4.cell (p := ⟨w.heap.size, 1, none⟩) hg).trans R1.out
            clear hb4 H14 s0 s1
            go_wp2_with fail
            go_ret
            exact ⟨rfl, H4.out⟩
          · have hzc := HTr.out (by omega) hzb
            go_wp2_with fail
            refine H14.out.mono ?_
            rintro e W4 ⟨rfl, hb4⟩
            have H4 := Lib.hid (BB.out.trans (hb4.mono BB.out.size))
            have t0 := (hb4.cell (p := ⟨w.heap.size, 0, none⟩) hg).trans R0.out
            have t1 := (hb4.cell (p := ⟨w.heap.size, 1, none⟩) hg).trans R1.out
            clear hb4 H14 s0 s1
            go_wp2_with fail
            go_ret
            exact ⟨rfl, H4.out⟩
        · have hq := HEq.out (c := false) (by simp [HQ.out])
          go_wp2_with fail
          refine H14.out.mono ?_
          rintro e W4 ⟨rfl, hb4⟩
          have H4 := Lib.hid (BB.out.trans (hb4.mono BB.out.size))
          have t0 := (hb4.cell (p := ⟨w.heap.size, 0, none⟩) hg).trans R0.out
          have t1 := (hb4.cell (p := ⟨w.heap.size, 1, none⟩) hg).trans R1.out
          clear hb4 H14 s0 s1
          go_wp2_with fail
          go_ret
          exact ⟨rfl, H4.out⟩
      | succ j =>
        have hm : m < zs.length := by omega
        obtain ⟨x, hx⟩ : ∃ x, zs[m]? = some x := ⟨_, List.getElem?_eq_getElem hm⟩
        obtain ⟨b1, o1, rfl, hlt1, hc1⟩ := I3.out.2 (by omega)
        obtain ⟨b2, o2, rfl, hlt2, hc2⟩ := J3.out.2 (by omega)
        have x1 := (hb'.cell (p := ⟨b1, o1 + m, none⟩) hlt1).trans (hc1 m x hx)
        have x2 := (hb'.cell (p := ⟨b2, o2 + m, none⟩) hlt2).trans (hc2 m x hx)
        have HM := Lib.hid hmk
        clear hmk hx hc1 hc2 hb'
        go_wp2_with fail
        go_quiet (fail)
        go_wp2_with fail
        go_roundg j
        case measure => omega
        case rel => exact ⟨m + 1, by have := HM.out; omega, by go_num, below_drewN BB.out _, below_drewN BB'.out _⟩
  · have e1 : nameOf zs n = .tuple #[.string ⟨#[]⟩, .bool false] := if_neg hok
    rw [e1] at H11
    clear e1 hok
    go_wp2_with fail
    refine H11.out.mono ?_
    rintro e w2 ⟨rfl, hb2⟩
    have B2 := Lib.hid (B1.out.trans (hb2.mono B1.out.size))
    have b12 := hb2
    clear hb2 H11 q0 q1 q2
    go_wp2_with fail
    have R0 := Lib.hid ((b12.cell (p := ⟨w.heap.size, 0, none⟩) hg1).trans Q0.out)
    have R1 := Lib.hid ((b12.cell (p := ⟨w.heap.size, 1, none⟩) hg1).trans Q1.out)
    have r0 := (b12.cell (p := ⟨w.heap.size, 0, none⟩) hg1).trans Q0.out
    have r1 := (b12.cell (p := ⟨w.heap.size, 1, none⟩) hg1).trans Q1.out
    have r2 := (b12.cell (p := ⟨w.heap.size, 2, none⟩) hg1).trans Q2.out
    have hg := World.block_lt_of_cell? w2 _ r0
    have EW := Lib.hid (HE.out.on B2.out)
    have Hab : Hid (∀ W, Below w2.heap.size w2 W → Calls Tryd.prog 14 #[.string SA, .string SB] W fun e w' => e = .returned (.int .i64 za) ∧ Below w2.heap.size w2 w') := fun W hb => (Cab.out W (EW.out.on hb) h1' h2').mono fun e w' h => ⟨h.1, hb.trans (h.2.mono hb.size)⟩
    have Hbc : Hid (∀ W, Below w2.heap.size w2 W → Calls Tryd.prog 14 #[.string SB, .string SC] W fun e w' => e = .returned (.int .i64 zb) ∧ Below w2.heap.size w2 w') := fun W hb => (Cbc.out W (EW.out.on hb) h2' h3').mono fun e w' h => ⟨h.1, hb.trans (h.2.mono hb.size)⟩
    have Hac : Hid (∀ W, Below w2.heap.size w2 W → Calls Tryd.prog 14 #[.string SA, .string SC] W fun e w' => e = .returned (.int .i64 zc) ∧ Below w2.heap.size w2 w') := fun W hb => (Cac.out W (EW.out.on hb) h1' h3').mono fun e w' h => ⟨h.1, hb.trans (h.2.mono hb.size)⟩
    have Hba : Hid (∀ W, Below w2.heap.size w2 W → Calls Tryd.prog 14 #[.string SB, .string SA] W fun e w' => e = .returned (.int .i64 (-za)) ∧ Below w2.heap.size w2 w') := fun W hb => (Cba.out W (EW.out.on hb) h2' h1').mono fun e w' h => ⟨h.1, hb.trans (h.2.mono hb.size)⟩
    go_region_held3 (fun W => W.cell? ⟨w.heap.size, 0, none⟩ = some (.string SA) ∧ W.cell? ⟨w.heap.size, 1, none⟩ = some (.string SB) ∧ W.cell? ⟨w.heap.size, 2, none⟩ = some (.string SC))
      (first
        | go_keep
        | exact ⟨(hbC.cell (p := ⟨w.heap.size, 0, none⟩) hg).trans r0, (hbC.cell (p := ⟨w.heap.size, 1, none⟩) hg).trans r1, (hbC.cell (p := ⟨w.heap.size, 2, none⟩) hg).trans r2⟩
        | exact ⟨(hbB.cell (p := ⟨w.heap.size, 0, none⟩) hg).trans r0, (hbB.cell (p := ⟨w.heap.size, 1, none⟩) hg).trans r1, (hbB.cell (p := ⟨w.heap.size, 2, none⟩) hg).trans r2⟩
        | exact ⟨(hbA.cell (p := ⟨w.heap.size, 0, none⟩) hg).trans r0, (hbA.cell (p := ⟨w.heap.size, 1, none⟩) hg).trans r1, (hbA.cell (p := ⟨w.heap.size, 2, none⟩) hg).trans r2⟩)
      (first
        | (go_at_call 14; refine (Hac.out _ hbB).mono ?_; rintro e W3 ⟨rfl, hbC⟩)
        | (go_at_call 14; refine (Hbc.out _ hbA).mono ?_; rintro e W2 ⟨rfl, hbB⟩)
        | (go_at_call 14; refine (Hab.out _ (Below.refl _ _).drew).mono ?_; rintro e W1 ⟨rfl, hbA⟩))
    have HC := Lib.hid hbC
    have s0 := (hbC.cell (p := ⟨w.heap.size, 0, none⟩) hg).trans r0
    have s1 := (hbC.cell (p := ⟨w.heap.size, 1, none⟩) hg).trans r1
    have H14 := Lib.hid (Hba.out W3 hbC)
    clear hbA hbB hbC r0 r1 r2 Hab Hbc Hac Hba
    rcases HZ.out with rfl | rfl | rfl
    · have hq := HEq.out (c := false) (by simp [HQ.out])
      rcases Int.lt_or_le 0 zb with hzb | hzb
      · go_wp2_with fail
        refine H14.out.mono ?_
        rintro e W4 ⟨rfl, hb4⟩
        have H4 := Lib.hid (B2.out.trans (hb4.mono B2.out.size))
        have t0 := (hb4.cell (p := ⟨w.heap.size, 0, none⟩) hg).trans R0.out
        have t1 := (hb4.cell (p := ⟨w.heap.size, 1, none⟩) hg).trans R1.out
        clear hb4 H14 s0 s1
        go_wp2_with fail
        go_ret
        exact ⟨rfl, H4.out⟩
      · have hzc := HTr.out (by omega) hzb
        go_wp2_with fail
        refine H14.out.mono ?_
        rintro e W4 ⟨rfl, hb4⟩
        have H4 := Lib.hid (B2.out.trans (hb4.mono B2.out.size))
        have t0 := (hb4.cell (p := ⟨w.heap.size, 0, none⟩) hg).trans R0.out
        have t1 := (hb4.cell (p := ⟨w.heap.size, 1, none⟩) hg).trans R1.out
        clear hb4 H14 s0 s1
        go_wp2_with fail
        go_ret
        exact ⟨rfl, H4.out⟩
    · have hq := HEq.out (c := true) (by simp [HQ.out])
      rcases Int.lt_or_le 0 zb with hzb | hzb
      · go_wp2_with fail
        refine H14.out.mono ?_
        rintro e W4 ⟨rfl, hb4⟩
        have H4 := Lib.hid (B2.out.trans (hb4.mono B2.out.size))
        have t0 := (hb4.cell (p := ⟨w.heap.size, 0, none⟩) hg).trans R0.out
        have t1 := (hb4.cell (p := ⟨w.heap.size, 1, none⟩) hg).trans R1.out
        clear hb4 H14 s0 s1
        go_wp2_with fail
        go_ret
        exact ⟨rfl, H4.out⟩
      · have hzc := HTr.out (by omega) hzb
        go_wp2_with fail
        refine H14.out.mono ?_
        rintro e W4 ⟨rfl, hb4⟩
        have H4 := Lib.hid (B2.out.trans (hb4.mono B2.out.size))
        have t0 := (hb4.cell (p := ⟨w.heap.size, 0, none⟩) hg).trans R0.out
        have t1 := (hb4.cell (p := ⟨w.heap.size, 1, none⟩) hg).trans R1.out
        clear hb4 H14 s0 s1
        go_wp2_with fail
        go_ret
        exact ⟨rfl, H4.out⟩
    · have hq := HEq.out (c := false) (by simp [HQ.out])
      go_wp2_with fail
      refine H14.out.mono ?_
      rintro e W4 ⟨rfl, hb4⟩
      have H4 := Lib.hid (B2.out.trans (hb4.mono B2.out.size))
      have t0 := (hb4.cell (p := ⟨w.heap.size, 0, none⟩) hg).trans R0.out
      have t1 := (hb4.cell (p := ⟨w.heap.size, 1, none⟩) hg).trans R1.out
      clear hb4 H14 s0 s1
      go_wp2_with fail
      go_ret
      exact ⟨rfl, H4.out⟩
end Go.Proofs.YtkjenigpheppjaaDoor
