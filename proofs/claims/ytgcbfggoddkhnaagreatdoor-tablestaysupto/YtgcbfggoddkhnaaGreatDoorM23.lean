/- Lemmas for the law: Uf, Pq, Pr. -/
import Derived.Test.YtgcbfggoddkhnaaGreatDoorM22
import Derived.Test.YtgcbfggoddkhnaaGreatDoorM06
namespace Go.Proofs.YtgcbfggoddkhnaaGreatDoor
open Go.RowKit
def oSp : Ob := ⟨5, [], [], 0, [], [], 0, [], 0, []⟩
theorem oSp_wide : WideO oSp := { ob0_wide with kind := ⟨by decide, by decide⟩ }
theorem oSp_at (w : World) : ObjAt w No (.agg #[.int .i64 5, .slice none 0 0, .slice none 0 0, .int .i64 0, .slice none 0 0, .slice none 0 0, .int .i64 0, .slice none 0 0, .int .i64 0, .slice none 0 0]) oSp :=
  ⟨.slice none 0 0, ⟨_, _, _, _, _, rfl, SlV.nil _ _, SlV.nil _ _, SlV.nil _ _, SlV.nil _ _, MapsV.nil _ _⟩, SlV.nil _ _⟩
def StRel (w : World) (B t N k : Nat) (i : Value) (wr : World) : Prop :=
  ∃ m L n F, m + k = N ∧ m ≤ 40 ∧ i = .int .i64 (m : Int) ∧ LiveT wr B t n F L ∧ n ≤ 1 + 2 * m ∧ L.length ≤ 1 + 2 * m ∧ Below w.heap.size w wr ∧ B ≤ wr.heap.size
set_option maxRecDepth 100000 in
set_option maxHeartbeats 4000000 in
theorem stays_any {w : World} {A : Option Addr} {c : Nat} {l : List Opn} (he : Env w) (hl : OpsL w A l) : Calls Tryz.prog 6 #[.slice A l.length c] w (RetB w (.bool true)) := by
  have H8 := he.1
  have HE := Lib.hid he
  have F8 := Lib.hid (first_any he)
  obtain ⟨hcl, hwd, hlen⟩ := hl
  obtain ⟨N, hN⟩ : ∃ N, N = l.length := ⟨_, rfl⟩
  have HWD := Lib.hid hwd
  have HN := Lib.hid hN
  rw [← hN] at hcl hlen ⊢
  have HCL := Lib.hid hcl
  clear he hwd hN hcl
  go_enter Tryz.func6, Tryz.ntmps6
  go_wp2_with fail
  refine F8.out.mono ?_
  rintro e w1 ⟨rfl, hb1⟩
  have J1 := Lib.hid (live_new (HE.out.on hb1))
  have B1 := Lib.hid hb1
  have HB1 : Hid (w.heap.size ≤ w1.heap.size) := hb1.size
  clear hb1 F8
  go_wp2_with fail
  refine J1.out.mono ?_
  rintro e w2 ⟨t, F1, rfl, hl2, hb2⟩
  have L2 := Lib.hid hl2
  have B2 := Lib.hid (next_below B1.out hb2)
  obtain ⟨B, hB⟩ : ∃ B, B = w1.heap.size := ⟨_, rfl⟩
  have HS2 : Hid (w.heap.size ≤ B ∧ B ≤ w2.heap.size) := ⟨by rw [hB]; exact HB1.out, by rw [hB]; exact hb2.size⟩
  rw [← hB] at L2
  clear hl2 hb2 hB J1
  go_wp2_with fail
  go_loopg [17] N (fun k i wr => StRel w B t N k i wr)
  case atStart => exact ⟨0, _, 1, F1, by simp, by omega, rfl, L2.out, by omega, by simp, B2.out, HS2.out.2⟩
  case round =>
    obtain ⟨m, L, n, F, hmk, hm40, hi, hlv, hn1, hL1, hbw, hBr⟩ := hrel
    subst hi
    have HMK := Lib.hid hmk
    have BW := Lib.hid hbw
    have LV := Lib.hid hlv
    have HB8 : Hid (8 ≤ B) := Nat.le_trans H8 HS2.out.1
    cases gk with
    | zero =>
      have hmn : m = N := by omega
      subst hmn
      have hge : ¬ (m : Int) < m := by omega
      have hLs : L.length ≤ 1000 := by omega
      have hbl := tab_le LV.out.val hLs
      have J2 := Lib.hid (live_bytes (HE.out.on hbw) LV.out (by omega) (by omega))
      have HBL := Lib.hid hbl
      have hBr0 := Lib.hid hBr
      clear hmk hlv hbw hbl
      go_wp2_with fail
      refine J2.out.mono ?_
      rintro e w3 ⟨A3, c3, rfl, r1, r2, r3, r4, r5, r6⟩
      have L3 := LV.out.on r6
      have HS33 : Hid (wr.heap.size ≤ w3.heap.size) := r6.size
      have B3 := next_below BW.out r6
      have J3 := live_load (c := c3) (HE.out.on B3) r1 L3.sml r3 (by have := HBL.out; omega)
      obtain ⟨nb, hnb⟩ : ∃ n, n = (tabBytes L).length := ⟨_, rfl⟩
      have HNB := Lib.hid hnb
      rw [← hnb] at J3 ⊢
      have J3 := Lib.hid J3
      have HL3 := Lib.hid L3
      have HB3 := Lib.hid B3
      have R1 := Lib.hid r1
      have R2 : Hid (∀ a : Addr, A3 = some a → wr.heap.size ≤ a.block) := fun a ha => by
        obtain ⟨b, h1, h2, _⟩ := r2 a ha
        rw [h1]; exact h2
      have hFl : Hid (∀ b, F b → b < wr.heap.size) := LV.out.lt
      clear r1 r2 r3 r4 r5 r6 L3 B3 hnb J2
      go_wp2_with fail
      refine J3.out.mono ?_
      rintro e w4 ⟨hn4, ⟨Lx, tu, Fu, nu, hx, hnu, rfl, hu⟩ | ⟨hno, _⟩⟩
      case inr => exact absurd ⟨L, LV.out.val, rfl⟩ hno
      have hLx : Lx = L := (tabBytes_inj LV.out.val hu.val HL3.out.sml hx).symm
      subst hLx
      have L4 := HL3.out.on hn4
      have B4 := next_below HB3.out hn4
      have J4 := Lib.hid (live_clone L4 (by omega))
      have HL4 := Lib.hid L4
      have HB4 := Lib.hid B4
      have U4 := Lib.hid hu
      have R4 := Lib.hid (bts_on R1.out hn4)
      have HNU : Hid (nu ≤ 65536) := hnu
      have HS34 : Hid (wr.heap.size ≤ w4.heap.size) := Nat.le_trans HS33.out hn4.size
      clear hn4 hx hu hnu L4 B4 J3
      go_wp2_with fail
      refine J4.out.mono ?_
      rintro e w5 ⟨tc, Fc, nc, rfl, hnc, hfc, hn5⟩
      have B5 := next_below HB4.out hn5
      have R5 := bts_on R4.out hn5
      obtain ⟨S0, hS0⟩ : ∃ S, S = Tp.str (tabBytes Lx) := ⟨_, rfl⟩
      have HS0 := Lib.hid hS0
      have hcv : ∀ W, Below w5.heap.size w5 W → (convert 25 9 (.slice A3 nb c3)).run Tryz.prog W = .ok (.string S0) W := fun W hW => by
        rw [HNB.out, hS0]; exact Tp.conv_str (bts_on R5 hW) c3
      have hd : Below w5.heap.size w5 w5.drew := (Below.refl _ _).drew
      have J5 := live_bytes (HE.out.on (next_below B5 hd)) ((U4.out.on hn5).on hd).live (by have := HNU.out; omega) (by have := HBL.out; omega)
      rw [show Tp.RetCopy w5.drew (tabBytes Lx) = Tp.RetCopy w5.drew (tabBytes Lx) from rfl] at J5
      have J5 := Lib.hid J5
      have HCV := Lib.hid hcv
      have HD := Lib.hid hd
      have cv0 := hcv w5 (Below.refl _ _)
      have cvd := hcv w5.drew hd
      have HL5 := Lib.hid (HL4.out.on hn5)
      have C5 := Lib.hid hfc
      have HB5 := Lib.hid B5
      have HR5 := Lib.hid R5
      have HS35 : Hid (wr.heap.size ≤ w5.heap.size) := Nat.le_trans HS34.out hn5.size
      have HNC : Hid (nc ≤ n) := hnc
      clear hn5 hfc hnc hcv hd R5 B5 hS0 J4
      go_wp2_with fail
      first
        | (go_region_with (first | (go_at_call 30; refine J5.out.mono ?_; rintro e w6 ⟨A6, c6, rfl, r1, r2, r3, r4, r5, r6⟩; have cv6 := HCV.out w6 (HD.out.trans (r6.mono HD.out.size)); have cu6 := Tp.conv_str r1 c6; rw [← HS0.out, ← HNB.out] at cu6; rw [← HNB.out])))
        | (go_region_with (first | (go_at_call 30; refine J5.out.mono ?_; rintro e w6 ⟨A6, c6, rfl, r1, r2, r3, r4, r5, r6⟩; have cv6 := HCV.out w6 (HD.out.trans (r6.mono HD.out.size)); have cu6 := Tp.conv_str r1 c6; rw [← HS0.out, ← HNB.out] at cu6; rw [← HNB.out])))
      all_goals (
        have hB6 := HD.out.trans (r6.mono HD.out.size)
        have L6 := HL5.out.on hB6
        have C6 := Lib.hid (C5.out.on hB6)
        have b6 := next_below HB5.out hB6
        have hs6 : B ≤ w6.heap.size := Nat.le_trans hBr0.out (Nat.le_trans HS35.out hB6.size)
        have J6 := live_add (q := 16) (HE.out.on b6) HB8.out hs6 L6 (by omega) (nil_path w6) (fun h => absurd h (by simp [Pa.zCellsOf])) (by simp) (oSp_at w6) oSp_wide
        have J6 := Lib.hid J6
        have HL6 := Lib.hid L6
        have HB6 := Lib.hid b6
        have R6 := Lib.hid (bts_on HR5.out hB6)
        have HS6 : Hid (B ≤ w6.heap.size) := hs6
        clear r1 r2 r3 r4 r5 r6 cv6 cu6 cv0 cvd hB6 L6 b6 hs6 J5
        go_wp2_with fail
        refine J6.out.mono ?_
        rintro e w7 ⟨rfl, hlv7⟩
        have hb7 := hlv7.below HL6.out HS6.out
        have C7 := C6.out.leaves HL4.out (Nat.le_refl _) hlv7
        obtain ⟨F7, _, hs7⟩ := hlv7
        have R7 := bts_kp R6.out hs7.1 fun a ha hf => by have := R2.out a ha; have := hFl.out _ hf; omega
        have B7 := HB6.out.trans (hb7.mono HS2.out.1)
        have hcv7 : ∀ W, Below w7.heap.size w7 W → (convert 25 9 (.slice A3 nb c3)).run Tryz.prog W = .ok (.string S0) W := fun W hW => by
          rw [HNB.out, HS0.out]; exact Tp.conv_str (bts_on R7 hW) c3
        have hd7 : Below w7.heap.size w7 w7.drew := (Below.refl _ _).drew
        have J7 := Lib.hid (live_bytes (HE.out.on (next_below B7 hd7)) (C7.on hd7).live (by have := HNC.out; omega) (by have := HBL.out; omega))
        have HCV7 := Lib.hid hcv7
        have HD7 := Lib.hid hd7
        have cv8 := hcv7 w7 (Below.refl _ _)
        have cv9 := hcv7 w7.drew hd7
        have HB7 := Lib.hid B7
        clear hb7 hs7 R7 B7 hcv7 hd7 C7 J6
        go_wp2_with fail
        first
          | (go_region_with (first | (go_at_call 30; refine J7.out.mono ?_; rintro e w10 ⟨A10, c10, rfl, q1, q2, q3, q4, q5, q6⟩; have cv10 := HCV7.out w10 (HD7.out.trans (q6.mono HD7.out.size)); have cu10 := Tp.conv_str q1 c10; rw [← HS0.out, ← HNB.out] at cu10; rw [← HNB.out])))
          | (go_region_with (first | (go_at_call 30; refine J7.out.mono ?_; rintro e w10 ⟨A10, c10, rfl, q1, q2, q3, q4, q5, q6⟩; have cv10 := HCV7.out w10 (HD7.out.trans (q6.mono HD7.out.size)); have cu10 := Tp.conv_str q1 c10; rw [← HS0.out, ← HNB.out] at cu10; rw [← HNB.out]))))
      all_goals (
        have B10 := next_below HB7.out (HD7.out.trans (q6.mono HD7.out.size))
        clear q1 q2 q3 q4 q5 q6 cv8 cv9 cv10 cu10
        go_wp2_with fail
        go_ret
        exact ⟨rfl, B10⟩)
    | succ j =>
      have hm : m < N := by omega
      have hmlt : (m : Int) < N := by omega
      obtain ⟨b, off, rfl, hat⟩ := HCL.out (by omega)
      obtain ⟨⟨xk, xp, xo, xq⟩, hx⟩ : ∃ x, l[m]? = some x := ⟨_, List.getElem?_eq_getElem (by rw [← HN.out]; exact hm)⟩
      have hwx := HWD.out _ (List.mem_of_getElem? hx)
      obtain ⟨Ap, cp, zk, AL, nL, cL, Ak, nk, ck, nx, AB, nB, cB, AO, nO, cO, ca, AN, nN, cN, ri, AM, nM, cM, h0, h1, k0, k1, k2, k3, k4, k5, k6, k7, k8, k9, h12, hp, hob⟩ := (hat m _ hx).on hbw
      dsimp only at h0 h1 h12 hp hob
      have hp0 : Pa.PL w Ap cp xp := by
        obtain ⟨Ap', cp', zk', AL', nL', cL', Ak', nk', ck', nx', AB', nB', cB', AO', nO', cO', ca', AN', nN', cN', ri', AM', nM', cM', g0, g1, -, -, -, -, -, -, -, -, -, -, -, hp', -⟩ := hat m _ hx
        dsimp only at g1 hp'
        have e1 := (hbw.cell (p := ⟨b, off + m * 13 + 1, none⟩) (World.block_lt_of_cell? w _ g1)).trans g1
        rw [h1] at e1
        injection e1 with e1
        injection e1 with e1 e2 e3
        subst e1 e3
        exact hp'
      have PF : Hid (∀ W, Below w.heap.size w W → ∀ G : Nat → Prop, (∀ b, G b → B ≤ b) → Sl W G Ap (Pa.zCellsOf xp)) := fun W hW G hG => pl_sl hp0 hW fun b hb => Nat.le_trans HS2.out.1 (hG b hb)
      clear hp0
      obtain ⟨np, hnp⟩ : ∃ n, n = xp.length := ⟨_, rfl⟩
      have HNP := Lib.hid hnp
      rw [← hnp] at h1
      have HWX := Lib.hid hwx
      obtain ⟨w6, hw6⟩ : ∃ W, W = wr.alloc (.cells #[.int .i64 xk, .slice Ap np cp, .int .i64 zk, .slice AL nL cL, .slice Ak nk ck, .int .i64 nx, .slice AB nB cB, .slice AO nO cO, .int .i64 ca, .slice AN nN cN, .int .i64 ri, .slice AM nM cM, .int .i64 xq] 54) := ⟨_, rfl⟩
      obtain ⟨bx, hbx⟩ : ∃ b, b = wr.heap.size := ⟨_, rfl⟩
      have hn6 : Below wr.heap.size wr w6 := by rw [hw6]; exact (Below.refl _ _).alloc (Nat.le_refl _) _
      have X6 : BoxAt w6 bx #[.int .i64 xk, .slice Ap np cp, .int .i64 zk, .slice AL nL cL, .slice Ak nk ck, .int .i64 nx, .slice AB nB cB, .slice AO nO cO, .int .i64 ca, .slice AN nN cN, .int .i64 ri, .slice AM nM cM, .int .i64 xq] 54 := by rw [hw6, hbx]; exact BoxAt.new _ _ _
      have B6 := Lib.hid (next_below hbw hn6)
      have J3 := great_any (hob.read hn6) hwx.ob
      have P6 := Lib.hid (hp.on hn6)
      have O6 := Lib.hid (hob.read hn6)
      have L6 := Lib.hid (LV.out.on hn6)
      have X6 := Lib.hid X6
      have HBX : Hid (B ≤ bx ∧ B ≤ w6.heap.size) := by rw [hbx]; exact ⟨hBr, Nat.le_trans hBr hn6.size⟩
      clear hat hx hwx hp hob hnp hn6 hmk hlv hbw
      by_cases h40 : m = 40
      · have h40' : (40 : Int) ≤ m := by omega
        clear J3 h40
        go_wp2_with fail
        rw [← hw6]
        go_ret
        exact ⟨rfl, B6.out⟩
      have h40' : ¬ (40 : Int) ≤ m := by omega
      by_cases hgr : GreatO xo
      · rw [decide_eq_true hgr] at J3
        have J3 := Lib.hid J3
        clear hgr
        go_wp2_with fail
        rw [← hw6, ← hbx]
        clear hw6 hbx
        refine J3.out.mono ?_
        rintro e w7 ⟨rfl, hn7⟩
        have B7 := Lib.hid (next_below B6.out hn7)
        clear hn7
        go_wp2_with fail
        go_ret
        exact ⟨rfl, B7.out⟩
      rw [decide_eq_false hgr] at J3
      have J3 := Lib.hid J3
      clear hgr
      go_wp2_with fail
      rw [← hw6, ← hbx]
      clear hw6 hbx h0 h1 k0 k1 k2 k3 k4 k5 k6 k7 k8 k9 h12
      refine J3.out.mono ?_
      rintro e w7 ⟨rfl, hn7⟩
      have B7 := Lib.hid (next_below B6.out hn7)
      have X7 := X6.out.on hn7
      have h0 := X7.cell (k := 0) rfl
      have h1 := X7.cell (k := 1) rfl
      have k0 := X7.cell (k := 2) rfl
      have k1 := X7.cell (k := 3) rfl
      have k2 := X7.cell (k := 4) rfl
      have k3 := X7.cell (k := 5) rfl
      have k4 := X7.cell (k := 6) rfl
      have k5 := X7.cell (k := 7) rfl
      have k6 := X7.cell (k := 8) rfl
      have k7 := X7.cell (k := 9) rfl
      have k8 := X7.cell (k := 10) rfl
      have k9 := X7.cell (k := 11) rfl
      have h12 := X7.cell (k := 12) rfl
      by_cases h20 : 20 < np
      · have h20' : (20 : Int) < np := by omega
        clear hn7 X7
        go_wp2_with fail
        go_ret
        exact ⟨rfl, B7.out⟩
      have h20' : ¬ (20 : Int) < np := by omega
      have L7 := L6.out.on hn7
      have hLs : L.length ≤ 1000 := by omega
      have hbl := tab_le L7.val hLs
      have J4 := Lib.hid (live_bytes (HE.out.on B7.out) L7 (by omega) (by omega))
      have HBL := Lib.hid hbl
      have P7 := Lib.hid (P6.out.on hn7)
      have O7 := Lib.hid (O6.out.read hn7)
      have HX7 := Lib.hid X7
      have HL7 := Lib.hid L7
      have HBS : Hid (B ≤ w7.heap.size) := Nat.le_trans HBX.out.2 hn7.size
      clear hn7 X7 L7 hbl J3
      go_wp2_with fail
      clear h0 h1 k0 k1 k2 k3 k4 k5 k6 k7 k8 k9 h12
      refine J4.out.mono ?_
      rintro e w8 ⟨A8, c8, rfl, r1, r2, r3, r4, r5, r6⟩
      have cu8 := Tp.conv_str r1 c8
      obtain ⟨S0, hS0⟩ : ∃ S, S = Tp.str (tabBytes L) := ⟨_, rfl⟩
      obtain ⟨nb, hnb⟩ : ∃ n, n = (tabBytes L).length := ⟨_, rfl⟩
      rw [← hS0, ← hnb] at cu8
      rw [← hnb]
      have HS0 := Lib.hid hS0
      have HNB := Lib.hid hnb
      have X8 := HX7.out.on r6
      have h0 := X8.cell (k := 0) rfl
      have h1 := X8.cell (k := 1) rfl
      have k0 := X8.cell (k := 2) rfl
      have k1 := X8.cell (k := 3) rfl
      have k2 := X8.cell (k := 4) rfl
      have k3 := X8.cell (k := 5) rfl
      have k4 := X8.cell (k := 6) rfl
      have k5 := X8.cell (k := 7) rfl
      have k6 := X8.cell (k := 8) rfl
      have k7 := X8.cell (k := 9) rfl
      have k8 := X8.cell (k := 10) rfl
      have k9 := X8.cell (k := 11) rfl
      have h12 := X8.cell (k := 12) rfl
      have P8 := Lib.hid (P7.out.on r6)
      have O8 := Lib.hid (O7.out.read r6)
      have L8 := Lib.hid (HL7.out.on r6)
      have B8 := Lib.hid (next_below B7.out r6)
      have HBS8 : Hid (B ≤ w8.heap.size) := Nat.le_trans HBS.out r6.size
      clear r1 r2 r3 r4 r5 r6 hS0 hnb X8 J4
      go_wp2_with fail
      · have J5 := live_allot (q := xq) (HE.out.on B8.out) HBS8.out L8.out (by omega) P8.out (by have := HWX.out.path; dsimp only at this; omega)
        rw [← HNP.out] at J5
        have J5 := Lib.hid J5
        refine J5.out.mono ?_
        clear h0 h1 k0 k1 k2 k3 k4 k5 k6 k7 k8 k9 h12 cu8
        rintro e w9 ⟨rfl, hlv9⟩
        have hb9 := hlv9.below L8.out HBS8.out
        obtain ⟨F9, hl9, -⟩ := hlv9
        have B9 := Lib.hid (B8.out.trans (hb9.mono HS2.out.1))
        have HBS9 : Hid (B ≤ w9.heap.size) := Nat.le_trans HBS8.out hb9.size
        have HL9 := Lib.hid hl9
        have HM9 : Hid ((allotL L xp xq).length ≤ 1 + 2 * (m + 1)) := by have := allotL_len L xp xq; unfold Hid; omega
        clear hb9 hl9 J5
        by_cases hz : allotR (tabT L) xp xq = 0
        · rw [hz]
          clear hz
          go_wp2_with fail
          go_roundg j
          case measure => omega
          case rel => exact ⟨m + 1, _, _, _, by have := HMK.out; omega, by omega, by go_num, HL9.out, by omega, HM9.out, B9.out, HBS9.out⟩
        · have hLL : (allotL L xp xq) = L := by unfold allotL; rw [if_neg hz]
          rw [hLL] at HL9 HM9
          obtain ⟨zz, hzz⟩ : ∃ y, y = allotR (tabT L) xp xq := ⟨_, rfl⟩
          rw [← hzz] at hz ⊢
          have J6 := live_bytes (HE.out.on B9.out) HL9.out (by omega) (by have := HBL.out; omega)
          have J6 := Lib.hid J6
          clear hLL hzz
          go_wp2_with fail
          refine J6.out.mono ?_
          rintro e w10 ⟨A10, c10, rfl, q1, q2, q3, q4, q5, q6⟩
          have cu10 := Tp.conv_str q1 c10
          rw [← HS0.out, ← HNB.out] at cu10
          rw [← HNB.out]
          have L10 := Lib.hid (HL9.out.on q6)
          have B10 := Lib.hid (next_below B9.out q6)
          have HBS10 : Hid (B ≤ w10.heap.size) := Nat.le_trans HBS9.out q6.size
          clear q1 q2 q3 q4 q5 q6 J6
          go_wp2_with fail
          clear cu10
          go_roundg j
          case measure => omega
          case rel => exact ⟨m + 1, L, _, _, by have := HMK.out; omega, by omega, by go_num, L10.out, by omega, HM9.out, B10.out, HBS10.out⟩
      · have J5 := live_add (q := xq) (HE.out.on B8.out) HB8.out HBS8.out L8.out (by omega) P8.out (PF.out w8 B8.out F L8.out.own) (by have := HWX.out.path; dsimp only at this; omega) O8.out HWX.out.ob
        rw [← HNP.out] at J5
        have J5 := Lib.hid J5
        refine J5.out.mono ?_
        clear h0 h1 k0 k1 k2 k3 k4 k5 k6 k7 k8 k9 h12 cu8
        rintro e w9 ⟨rfl, hlv9⟩
        have hb9 := hlv9.below L8.out HBS8.out
        obtain ⟨F9, hl9, -⟩ := hlv9
        have B9 := Lib.hid (B8.out.trans (hb9.mono HS2.out.1))
        have HBS9 : Hid (B ≤ w9.heap.size) := Nat.le_trans HBS8.out hb9.size
        have HL9 := Lib.hid hl9
        have HM9 : Hid ((addL L xp xo xq).length ≤ 1 + 2 * (m + 1)) := by have := addL_len L xp xo xq; unfold Hid; omega
        clear hb9 hl9 J5
        by_cases hz : (addR (tabT L) xp xo xq).2 = 0
        · rw [hz]
          clear hz
          go_wp2_with fail
          go_roundg j
          case measure => omega
          case rel => exact ⟨m + 1, _, _, _, by have := HMK.out; omega, by omega, by go_num, HL9.out, by omega, HM9.out, B9.out, HBS9.out⟩
        · have hLL : (addL L xp xo xq) = L := by unfold addL; rw [if_neg hz]
          rw [hLL] at HL9 HM9
          obtain ⟨zz, hzz⟩ : ∃ y, y = (addR (tabT L) xp xo xq).2 := ⟨_, rfl⟩
          rw [← hzz] at hz ⊢
          have J6 := live_bytes (HE.out.on B9.out) HL9.out (by omega) (by have := HBL.out; omega)
          have J6 := Lib.hid J6
          clear hLL hzz
          go_wp2_with fail
          refine J6.out.mono ?_
          rintro e w10 ⟨A10, c10, rfl, q1, q2, q3, q4, q5, q6⟩
          have cu10 := Tp.conv_str q1 c10
          rw [← HS0.out, ← HNB.out] at cu10
          rw [← HNB.out]
          have L10 := Lib.hid (HL9.out.on q6)
          have B10 := Lib.hid (next_below B9.out q6)
          have HBS10 : Hid (B ≤ w10.heap.size) := Nat.le_trans HBS9.out q6.size
          clear q1 q2 q3 q4 q5 q6 J6
          go_wp2_with fail
          clear cu10
          go_roundg j
          case measure => omega
          case rel => exact ⟨m + 1, L, _, _, by have := HMK.out; omega, by omega, by go_num, L10.out, by omega, HM9.out, B10.out, HBS10.out⟩
      · have J5 := live_set (HE.out.on B8.out) HBS8.out L8.out (by omega) P8.out (by have := HWX.out.path; dsimp only at this; omega) O8.out HWX.out.ob
        rw [← HNP.out] at J5
        have J5 := Lib.hid J5
        refine J5.out.mono ?_
        clear h0 h1 k0 k1 k2 k3 k4 k5 k6 k7 k8 k9 h12 cu8
        rintro e w9 ⟨rfl, hlv9⟩
        have hb9 := hlv9.below L8.out HBS8.out
        obtain ⟨F9, hl9, -⟩ := hlv9
        have B9 := Lib.hid (B8.out.trans (hb9.mono HS2.out.1))
        have HBS9 : Hid (B ≤ w9.heap.size) := Nat.le_trans HBS8.out hb9.size
        have HL9 := Lib.hid hl9
        have HM9 : Hid ((setL L xp xo).length ≤ 1 + 2 * (m + 1)) := by have := setL_len L xp xo; unfold Hid; omega
        clear hb9 hl9 J5
        by_cases hz : setR (tabT L) xp xo = 0
        · rw [hz]
          clear hz
          go_wp2_with fail
          go_roundg j
          case measure => omega
          case rel => exact ⟨m + 1, _, _, _, by have := HMK.out; omega, by omega, by go_num, HL9.out, by omega, HM9.out, B9.out, HBS9.out⟩
        · have hLL : (setL L xp xo) = L := by unfold setL; rw [if_neg hz]
          rw [hLL] at HL9 HM9
          obtain ⟨zz, hzz⟩ : ∃ y, y = setR (tabT L) xp xo := ⟨_, rfl⟩
          rw [← hzz] at hz ⊢
          have J6 := live_bytes (HE.out.on B9.out) HL9.out (by omega) (by have := HBL.out; omega)
          have J6 := Lib.hid J6
          clear hLL hzz
          go_wp2_with fail
          refine J6.out.mono ?_
          rintro e w10 ⟨A10, c10, rfl, q1, q2, q3, q4, q5, q6⟩
          have cu10 := Tp.conv_str q1 c10
          rw [← HS0.out, ← HNB.out] at cu10
          rw [← HNB.out]
          have L10 := Lib.hid (HL9.out.on q6)
          have B10 := Lib.hid (next_below B9.out q6)
          have HBS10 : Hid (B ≤ w10.heap.size) := Nat.le_trans HBS9.out q6.size
          clear q1 q2 q3 q4 q5 q6 J6
          go_wp2_with fail
          clear cu10
          go_roundg j
          case measure => omega
          case rel => exact ⟨m + 1, L, _, _, by have := HMK.out; omega, by omega, by go_num, L10.out, by omega, HM9.out, B10.out, HBS10.out⟩
      · have J5 := live_remove (HE.out.on B8.out) HB8.out HBS8.out L8.out (by omega) P8.out (PF.out w8 B8.out F L8.out.own) (by have := HWX.out.path; dsimp only at this; omega)
        rw [← HNP.out] at J5
        have J5 := Lib.hid J5
        refine J5.out.mono ?_
        clear h0 h1 k0 k1 k2 k3 k4 k5 k6 k7 k8 k9 h12 cu8
        rintro e w9 ⟨rfl, hlv9⟩
        have hb9 := hlv9.below L8.out HBS8.out
        obtain ⟨F9, hl9, -⟩ := hlv9
        have B9 := Lib.hid (B8.out.trans (hb9.mono HS2.out.1))
        have HBS9 : Hid (B ≤ w9.heap.size) := Nat.le_trans HBS8.out hb9.size
        have HL9 := Lib.hid hl9
        have HM9 : Hid ((remvL L xp).length ≤ 1 + 2 * (m + 1)) := by have := remvL_len L xp; unfold Hid; omega
        clear hb9 hl9 J5
        by_cases hz : (remR L xp).2 = 0
        · rw [hz]
          clear hz
          go_wp2_with fail
          go_roundg j
          case measure => omega
          case rel => exact ⟨m + 1, _, _, _, by have := HMK.out; omega, by omega, by go_num, HL9.out, by omega, HM9.out, B9.out, HBS9.out⟩
        · have hLL : (remvL L xp) = L := by unfold remvL; rw [if_neg hz]
          rw [hLL] at HL9 HM9
          obtain ⟨zz, hzz⟩ : ∃ y, y = (remR L xp).2 := ⟨_, rfl⟩
          rw [← hzz] at hz ⊢
          have J6 := live_bytes (HE.out.on B9.out) HL9.out (by omega) (by have := HBL.out; omega)
          have J6 := Lib.hid J6
          clear hLL hzz
          go_wp2_with fail
          refine J6.out.mono ?_
          rintro e w10 ⟨A10, c10, rfl, q1, q2, q3, q4, q5, q6⟩
          have cu10 := Tp.conv_str q1 c10
          rw [← HS0.out, ← HNB.out] at cu10
          rw [← HNB.out]
          have L10 := Lib.hid (HL9.out.on q6)
          have B10 := Lib.hid (next_below B9.out q6)
          have HBS10 : Hid (B ≤ w10.heap.size) := Nat.le_trans HBS9.out q6.size
          clear q1 q2 q3 q4 q5 q6 J6
          go_wp2_with fail
          clear cu10
          go_roundg j
          case measure => omega
          case rel => exact ⟨m + 1, L, _, _, by have := HMK.out; omega, by omega, by go_num, L10.out, by omega, HM9.out, B10.out, HBS10.out⟩
end Go.Proofs.YtgcbfggoddkhnaaGreatDoor

namespace Go.Proofs.YtgcbfggoddkhnaaGreatDoor
open Go.ChangeShapes Go.WideShapes Go.ChangeAt Go.RowKit
theorem bulk_pos {H : Type} (d : DataW H) : 1 ≤ Rows.uptoBulk d := by
  cases d with
  | lit l => cases l <;> simp [Rows.uptoBulk]
  | _ => simp [Rows.uptoBulk]
theorem bulk_len {H : Type} (l : List (DataW H)) : l.length ≤ Rows.uptoBulkAll l := by
  induction l with
  | nil => simp
  | cons x r ih =>
    have := bulk_pos x
    simp only [Rows.uptoBulkAll, List.length_cons]
    omega
theorem open_row {H : Type} {enc : TypeId × Value → H} {W : World} {base fuel : Nat} {sp : Nat → Bool} {held : Bool} {t e : TypeId} {s : Nat} {v : Value} {d : DataW H} {p : List MemPlace} {α : Type} {Q : α → List Value → DataW H → Prop}
    (ht : Tryz.prog.underlying t = some (.slice e)) (hc : Tryz.prog.cellsOf e = s) (hs : 0 < s) (h : DataW.trod enc Tryz.prog W base sp held fuel t [v] = some (d, p))
    (each : ∀ n cs dd pp, cs.length = s → DataW.trod enc Tryz.prog W base sp held n e cs = some (dd, pp) → ∃ y : α, Q y cs dd) :
    ∃ (A : Option Addr) (c : Nat) (l : List α), v = .slice A l.length c ∧ (A = none → c = 0) ∧ l.length ≤ c ∧ l.length ≤ Rows.uptoBulk d ∧ (∀ y ∈ l, ∃ cs dd, Q y cs dd ∧ Rows.uptoBulk dd ≤ Rows.uptoBulk d) ∧
      (0 < l.length → ∃ b o, A = some ⟨b, o, none⟩ ∧ b < W.heap.size ∧ ∀ i y, l[i]? = some y → ∃ cs dd, Q y cs dd ∧ cs.length = s ∧ ∀ (r : Nat) (u : Value), cs[r]? = some u → W.cell? ⟨b, o + i * s + r, none⟩ = some u) := by
  rcases Go.Deep.open_slice ht h with ⟨hcs, hx⟩ | ⟨a', len', cap', m, n, D, Pl, hcs, hb, hl, hm, hmm, hx, hi⟩
  · injection hcs with hcs
    subst hcs
    exact ⟨none, 0, [], rfl, fun _ => rfl, Nat.le_refl _, Nat.zero_le _, (fun y hy => by cases hy), fun hp => absurd hp (by simp)⟩
  · injection hcs with hcs
    subst hcs
    have hlm : len' ≤ m := by rw [hmm]; split <;> omega
    have hd := (Prod.mk.inj hx).1
    have hbk : Rows.uptoBulk d = Rows.uptoBulkAll ((List.range len').map D) + Rows.uptoBulkAll ((List.range (m - len')).map fun j => D (len' + j)) + 1 := by rw [hd]; simp only [Rows.uptoBulk]
    have all : ∀ i, i < len' → ∃ y : α, ∃ cs, Q y cs (D i) ∧ cs.length = s ∧ ∀ (r : Nat) (u : Value), cs[r]? = some u → W.cell? (a'.add (i * s + r)) = some u := by
      intro i hil
      obtain ⟨cs', h1, h2⟩ := hi i (by omega)
      rw [hc] at h1
      obtain ⟨_, hlen, hcell⟩ := World.cells?_some h1
      obtain ⟨y, hy⟩ := each n cs' (D i) (Pl i) hlen h2
      refine ⟨y, cs', hy, hlen, fun r u hu => ?_⟩
      have hr : r < s := by have := (List.getElem?_eq_some_iff.1 hu).1; omega
      have := hcell r hr
      rw [Go.Deep.add_add] at this
      rw [this]
      first | exact hu | (rw [← hu])
    by_cases h0 : len' = 0
    · subst h0
      exact ⟨some a', cap', [], rfl, fun h => (by cases h), Nat.zero_le _, Nat.zero_le _, (fun y hy => by cases hy), fun hp => absurd hp (by simp)⟩
    haveI : Inhabited α := ⟨(all 0 (by omega)).choose⟩
    obtain ⟨f, hf⟩ := Go.Deep.choose_lt all
    have hle : ∀ i, i < len' → Rows.uptoBulk (D i) ≤ Rows.uptoBulk d := fun i hil => by
      have := part_le (H := H) (d := D i) (l := (List.range len').map D) (List.mem_map_of_mem (List.mem_range.2 hil))
      omega
    refine ⟨some a', cap', (List.range len').map f, by simp, fun h => (by cases h), by simp; omega, ?_, ?_, fun hp => ?_⟩
    · have := bulk_len ((List.range len').map D)
      simp only [List.length_map, List.length_range] at this ⊢
      omega
    · intro y hy
      obtain ⟨i, hi', rfl⟩ := List.mem_map.1 hy
      have hil := List.mem_range.1 hi'
      obtain ⟨cs, h1, _, _⟩ := hf i hil
      exact ⟨cs, D i, h1, hle i hil⟩
    · obtain ⟨b, off, spot⟩ := a'
      obtain ⟨cs0, _, hl0, hc0⟩ := hf 0 (by omega)
      obtain ⟨u0, hu0⟩ : ∃ u, cs0[0]? = some u := ⟨_, List.getElem?_eq_getElem (by omega)⟩
      have hcc := hc0 0 u0 hu0
      have hspot : spot = none := by simpa [Addr.add] using World.cell?_spot hcc
      subst hspot
      have hlt := World.block_lt_of_cell? W _ hcc
      refine ⟨b, off, rfl, by simpa [Addr.add] using hlt, fun i y hy => ?_⟩
      rw [List.getElem?_map] at hy
      have hil : i < len' := by
        rcases Nat.lt_or_ge i len' with h | h
        · exact h
        · rw [List.getElem?_eq_none (by simpa using h)] at hy; cases hy
      rw [List.getElem?_range hil] at hy
      injection hy with hy
      subst hy
      obtain ⟨cs, h1, h2, h3⟩ := hf i hil
      refine ⟨cs, D i, h1, h2, fun r u hu => ?_⟩
      have := h3 r u hu
      rw [add_plain] at this
      rw [Nat.add_assoc]
      exact this
theorem flat_at {α : Type} {f : α → List Value} {s : Nat} (hs : ∀ x, (f x).length = s) : ∀ (l : List α) (k : Nat) (u : Value), (l.flatMap f)[k]? = some u → ∃ i y r, l[i]? = some y ∧ k = i * s + r ∧ (f y)[r]? = some u
  | [], k, u, h => by simp at h
  | x :: r, k, u, h => by
    rw [List.flatMap_cons] at h
    by_cases hk : k < s
    · rw [List.getElem?_append_left (by rw [hs]; exact hk)] at h
      exact ⟨0, x, k, rfl, by omega, h⟩
    · rw [List.getElem?_append_right (by rw [hs]; omega), hs] at h
      obtain ⟨i, y, q, h1, h2, h3⟩ := flat_at hs r (k - s) u h
      exact ⟨i + 1, y, q, h1, by rw [Nat.succ_mul]; omega, h3⟩
theorem row_slv {W : World} {A : Option Addr} {c s : Nat} {α : Type} {l : List α} {f : α → List Value} (hs : ∀ x, (f x).length = s) (hc : A = none → c = 0) (hl : l.length ≤ c)
    (h : 0 < l.length → ∃ b o, A = some ⟨b, o, none⟩ ∧ b < W.heap.size ∧ ∀ i y, l[i]? = some y → ∀ (r : Nat) (u : Value), (f y)[r]? = some u → W.cell? ⟨b, o + i * s + r, none⟩ = some u) :
    SlV W No (.slice A l.length c) l.length (l.flatMap f) := by
  refine ⟨A, c, rfl, hc, hl, fun hp => ?_⟩
  have hl0 : 0 < l.length := by
    cases l with
    | nil => simp at hp
    | cons x r => simp
  obtain ⟨b, o, h1, h2, h3⟩ := h hl0
  refine ⟨b, o, h1, fun h => h, h2, fun k u hu => ?_⟩
  obtain ⟨i, y, r, g1, g2, g3⟩ := flat_at hs l k u hu
  rw [g2, ← Nat.add_assoc]
  exact h3 i y g1 r u g3
theorem entCells_flat (l : List Ent) : entCells l = l.flatMap fun e => [.string (str e.1), .int .i64 e.2] := by
  induction l with
  | nil => rfl
  | cons x r ih => obtain ⟨a, b⟩ := x; rw [List.flatMap_cons, ← ih]; rfl
theorem kidCells_flat (l : List Kd) : kidCells l = l.flatMap fun k => [.int .i64 k.1, .int .i64 k.2.1, .int .i64 k.2.2] := by
  induction l with
  | nil => rfl
  | cons x r ih => rw [List.flatMap_cons, ← ih]; rfl
theorem map_flat {α β : Type} (f : α → β) (l : List α) : l.map f = l.flatMap fun x => [f x] := by
  induction l with
  | nil => rfl
  | cons x r ih => rw [List.flatMap_cons, ← ih]; rfl
theorem Tryz.cells42 : Tryz.prog.cellsOf 42 = 2 := by kernel_rfl
theorem Tryz.cells85 : Tryz.prog.cellsOf 85 = 3 := by kernel_rfl
theorem Tryz.cells45 : Tryz.prog.cellsOf 45 = 3 := by kernel_rfl
theorem Tryz.cells54 : Tryz.prog.cellsOf 54 = 13 := by kernel_rfl
theorem Tryz.cells29 : Tryz.prog.cellsOf 29 = 10 := by kernel_rfl
theorem Tryz.cells4 : Tryz.prog.cellsOf 4 = 1 := by kernel_rfl
theorem Tryz.cells23 : Tryz.prog.cellsOf 23 = 1 := by kernel_rfl
theorem Tryz.cells24 : Tryz.prog.cellsOf 24 = 1 := by kernel_rfl
theorem Tryz.cells25 : Tryz.prog.cellsOf 25 = 1 := by kernel_rfl
theorem Tryz.cells26 : Tryz.prog.cellsOf 26 = 1 := by kernel_rfl
theorem Tryz.cells27 : Tryz.prog.cellsOf 27 = 1 := by kernel_rfl
theorem Tryz.cells43 : Tryz.prog.cellsOf 43 = 1 := by kernel_rfl
section
variable {H : Type} {enc : TypeId × Value → H} {W : World} {base fuel : Nat} {sp : Nat → Bool} {held : Bool} {v : Value} {d : DataW H} {p : List MemPlace}
theorem open_int1 {v : Value} (h : DataW.trod enc Tryz.prog W base sp held fuel 3 [v] = some (d, p)) : ∃ z, v = .int .i64 z ∧ W64 z := by
  obtain ⟨z, h1, _, h2⟩ := DataW.trod_int Tryz.underlying3 h
  injection h1 with h1
  have := bounds_i64 h2
  exact ⟨z, h1, by unfold W64; omega⟩
theorem numsT (h : DataW.trod enc Tryz.prog W base sp held fuel 43 [v] = some (d, p)) : ∃ (A : Option Addr) (c : Nat) (l : List Int), v = .slice A l.length c ∧ l.length ≤ Rows.uptoBulk d ∧ Pa.PL W A c l := by
  obtain ⟨A, c, l, rfl, h1, h2, h3, h4, h5⟩ := open_row (α := Int) (Q := fun y cs _ => cs = [.int .i64 y] ∧ W64 y) Tryz.underlying43 Tryz.cells3 (by omega) h fun n cs dd pp hl ht => by
    match cs, hl with
    | [u], _ =>
      obtain ⟨z, rfl, hz⟩ := open_int1 ht
      exact ⟨z, rfl, hz⟩
  refine ⟨A, c, l, rfl, h3, fun hp => ?_, h1, h2, fun z hz => ?_⟩
  · obtain ⟨b, o, e, hlt, hc⟩ := h5 hp
    refine ⟨b, o, e, hlt, fun k x hx => ?_⟩
    obtain ⟨cs, dd, ⟨rfl, _⟩, _, hcell⟩ := hc k x hx
    have := hcell 0 _ rfl
    simpa using this
  · obtain ⟨cs, dd, ⟨_, hw⟩, _⟩ := h4 z hz
    unfold W64 at hw
    omega
theorem pl_slv {A : Option Addr} {c : Nat} {l : List Int} (h : Pa.PL W A c l) : SlV W No (.slice A l.length c) l.length (Pa.zCellsOf l) := ⟨A, c, rfl, h.nil, h.cap, pl_sl h (Below.refl _ _) fun _ h => h.elim⟩
set_option maxRecDepth 100000 in
theorem entsT (h : DataW.trod enc Tryz.prog W base sp held fuel 23 [v] = some (d, p)) : ∃ l : List Ent, SlV W No v l.length (entCells l) ∧ l.length ≤ Rows.uptoBulk d ∧ ∀ e ∈ l, e.1.length ≤ Rows.uptoBulk d ∧ W64 e.2 := by
  obtain ⟨A, c, l, rfl, h1, h2, h3, h4, h5⟩ := open_row (α := Ent) (Q := fun y cs dd => cs = [.string (str y.1), .int .i64 y.2] ∧ y.1.length ≤ Rows.uptoBulk dd ∧ W64 y.2) Tryz.underlying23 Tryz.cells42 (by omega) h fun n cs dd pp hl ht => by
    obtain ⟨xs, k, hk, hxy, _, hxl, hf⟩ := DataW.trod_struct Tryz.underlying42 ht
    match xs, hxl, cs, hl with
    | [y0, y1], _, [v0, v1], _ =>
      have g0 := hf 0 _ rfl
      have g1 := hf 1 _ rfl
      simp [Tryz.cells3, Tryz.cells9] at g0 g1
      obtain ⟨s, hs, hsd, _⟩ := DataW.trod_string Tryz.underlying9 g0
      obtain ⟨z, rfl, hz⟩ := open_int1 g1
      injection hs with hs
      refine ⟨(s.data.toList, z), by rw [hs, ← str_of], ?_, hz⟩
      have := (Prod.mk.inj hxy).1
      rw [this, hsd]
      simp [Rows.uptoBulk, Rows.uptoBulkAll]
      omega
  refine ⟨l, ?_, h3, fun e he => ?_⟩
  · rw [entCells_flat]
    refine row_slv (s := 2) (fun _ => rfl) h1 h2 fun hp => ?_
    obtain ⟨b, o, e, hlt, hc⟩ := h5 hp
    refine ⟨b, o, e, hlt, fun i y hy r u hu => ?_⟩
    obtain ⟨cs, dd, ⟨rfl, _⟩, _, hcell⟩ := hc i y hy
    exact hcell r u hu
  · obtain ⟨cs, dd, ⟨_, hw, hw2⟩, hb⟩ := h4 e he
    exact ⟨Nat.le_trans hw hb, hw2⟩
set_option maxRecDepth 100000 in
theorem kidsT (h : DataW.trod enc Tryz.prog W base sp held fuel 24 [v] = some (d, p)) : ∃ l : List Kd, SlV W No v l.length (kidCells l) ∧ l.length ≤ Rows.uptoBulk d ∧ ∀ k ∈ l, W64 k.1 ∧ W64 k.2.1 ∧ W64 k.2.2 := by
  obtain ⟨A, c, l, rfl, h1, h2, h3, h4, h5⟩ := open_row (α := Kd) (Q := fun y cs _ => cs = [.int .i64 y.1, .int .i64 y.2.1, .int .i64 y.2.2] ∧ W64 y.1 ∧ W64 y.2.1 ∧ W64 y.2.2) Tryz.underlying24 Tryz.cells85 (by omega) h fun n cs dd pp hl ht => by
    obtain ⟨xs, k, hk, hxy, _, hxl, hf⟩ := DataW.trod_struct Tryz.underlying85 ht
    match xs, hxl, cs, hl with
    | [y0, y1, y2], _, [v0, v1, v2], _ =>
      have g0 := hf 0 _ rfl
      have g1 := hf 1 _ rfl
      have g2 := hf 2 _ rfl
      simp [Tryz.cells3] at g0 g1 g2
      obtain ⟨z0, rfl, hz0⟩ := open_int1 g0
      obtain ⟨z1, rfl, hz1⟩ := open_int1 g1
      obtain ⟨z2, rfl, hz2⟩ := open_int1 g2
      exact ⟨(z0, z1, z2), rfl, hz0, hz1, hz2⟩
  refine ⟨l, ?_, h3, fun e he => ?_⟩
  · rw [kidCells_flat]
    refine row_slv (s := 3) (fun _ => rfl) h1 h2 fun hp => ?_
    obtain ⟨b, o, e, hlt, hc⟩ := h5 hp
    refine ⟨b, o, e, hlt, fun i y hy r u hu => ?_⟩
    obtain ⟨cs, dd, ⟨rfl, _⟩, _, hcell⟩ := hc i y hy
    exact hcell r u hu
  · obtain ⟨cs, dd, ⟨_, hw⟩, _⟩ := h4 e he
    exact hw
theorem bytesT (h : DataW.trod enc Tryz.prog W base sp held fuel 25 [v] = some (d, p)) : ∃ l : List Nat, SlV W No v l.length (Tp.cellsOf l) ∧ l.length ≤ Rows.uptoBulk d ∧ Tp.Sml l := by
  obtain ⟨A, c, l, rfl, h1, h2, h3, h4, h5⟩ := open_row (α := Nat) (Q := fun y cs _ => cs = [.int .u8 (y : Int)] ∧ y < 256) Tryz.underlying25 Tryz.cells5 (by omega) h fun n cs dd pp hl ht => by
    match cs, hl with
    | [u], _ =>
      obtain ⟨z, h1, _, h2⟩ := DataW.trod_int Tryz.underlying5 ht
      injection h1 with h1
      have e1 : IntKind.u8.min = 0 := by decide
      have e2 : IntKind.u8.max = 255 := by decide
      simp only [Lit.wf, e1, e2, Bool.and_eq_true, decide_eq_true_eq] at h2
      refine ⟨z.toNat, ?_, by omega⟩
      rw [h1, Int.toNat_of_nonneg h2.1]
  refine ⟨l, ?_, h3, fun e he => ?_⟩
  · unfold Tp.cellsOf
    rw [map_flat]
    refine row_slv (s := 1) (fun _ => rfl) h1 h2 fun hp => ?_
    obtain ⟨b, o, e, hlt, hc⟩ := h5 hp
    refine ⟨b, o, e, hlt, fun i y hy r u hu => ?_⟩
    obtain ⟨cs, dd, ⟨rfl, _⟩, _, hcell⟩ := hc i y hy
    exact hcell r u hu
  · obtain ⟨cs, dd, ⟨_, hw⟩, _⟩ := h4 e he
    exact hw
theorem ownT (h : DataW.trod enc Tryz.prog W base sp held fuel 26 [v] = some (d, p)) : ∃ l : List (List UInt8), SlV W No v l.length (strCellsOf l) ∧ l.length ≤ Rows.uptoBulk d ∧ ∀ x ∈ l, x.length ≤ Rows.uptoBulk d := by
  obtain ⟨A, c, l, rfl, h1, h2, h3, h4, h5⟩ := open_row (α := List UInt8) (Q := fun y cs dd => cs = [.string (str y)] ∧ y.length ≤ Rows.uptoBulk dd) Tryz.underlying26 Tryz.cells9 (by omega) h fun n cs dd pp hl ht => by
    match cs, hl with
    | [u], _ =>
      obtain ⟨s, hs, hsd, _⟩ := DataW.trod_string Tryz.underlying9 ht
      injection hs with hs
      have := (Prod.mk.inj hsd).1
      exact ⟨s.data.toList, by rw [hs, ← str_of], by rw [this]; simp [Rows.uptoBulk]⟩
  refine ⟨l, ?_, h3, fun e he => ?_⟩
  · unfold strCellsOf
    rw [map_flat]
    refine row_slv (s := 1) (fun _ => rfl) h1 h2 fun hp => ?_
    obtain ⟨b, o, e, hlt, hc⟩ := h5 hp
    refine ⟨b, o, e, hlt, fun i y hy r u hu => ?_⟩
    obtain ⟨cs, dd, ⟨rfl, _⟩, _, hcell⟩ := hc i y hy
    exact hcell r u hu
  · obtain ⟨cs, dd, ⟨_, hw⟩, hb⟩ := h4 e he
    exact Nat.le_trans hw hb
set_option maxRecDepth 100000 in
theorem mapsT (h : DataW.trod enc Tryz.prog W base sp held fuel 27 [v] = some (d, p)) : ∃ l : List Mp, MapsV W No v l ∧ l.length ≤ Rows.uptoBulk d ∧ ∀ m ∈ l, W64 m.1 ∧ m.2.1.length ≤ Rows.uptoBulk d ∧ Pa.WideZ m.2.1 := by
  obtain ⟨A, c, l, rfl, h1, h2, h3, h4, h5⟩ := open_row (α := Mp) (Q := fun y cs dd => ∃ s, cs = [.int .i64 y.1, s, .bool y.2.2] ∧ SlV W No s y.2.1.length (Pa.zCellsOf y.2.1) ∧ y.2.1.length ≤ Rows.uptoBulk dd ∧ W64 y.1 ∧ Pa.WideZ y.2.1) Tryz.underlying27 Tryz.cells45 (by omega) h fun n cs dd pp hl ht => by
    obtain ⟨xs, k, hk, hxy, _, hxl, hf⟩ := DataW.trod_struct Tryz.underlying45 ht
    match xs, hxl, cs, hl with
    | [y0, y1, y2], _, [v0, v1, v2], _ =>
      have g0 := hf 0 _ rfl
      have g1 := hf 1 _ rfl
      have g2 := hf 2 _ rfl
      simp [Tryz.cells3, Tryz.cells43, Tryz.cells4] at g0 g1 g2
      obtain ⟨z0, rfl, hz0⟩ := open_int1 g0
      obtain ⟨A1, c1, l1, rfl, hb1, hp1⟩ := numsT g1
      obtain ⟨bb, hbb, _⟩ := DataW.trod_bool Tryz.underlying4 g2
      injection hbb with hbb
      subst hbb
      refine ⟨(z0, l1, bb), _, rfl, pl_slv hp1, Nat.le_trans hb1 ?_, hz0, hp1.wide⟩
      have := (Prod.mk.inj hxy).1
      rw [this]
      simp [Rows.uptoBulk, Rows.uptoBulkAll]
      omega
  refine ⟨l, ⟨A, c, rfl, h1, h2, fun hp => ?_⟩, h3, fun e he => ?_⟩
  · obtain ⟨b, o, e, hlt, hc⟩ := h5 hp
    refine ⟨b, o, e, fun h => h, hlt, fun i y hy => ?_⟩
    obtain ⟨cs, dd, ⟨s, rfl, hsv, _⟩, _, hcell⟩ := hc i y hy
    have q0 := hcell 0 _ rfl
    have q1 := hcell 1 _ rfl
    have q2 := hcell 2 _ rfl
    exact ⟨by simpa using q0, ⟨s, q1, hsv⟩, q2⟩
  · obtain ⟨cs, dd, ⟨s, _, _, hb, hw1, hw2⟩, hb2⟩ := h4 e he
    exact ⟨hw1, Nat.le_trans hb hb2, hw2⟩
set_option maxRecDepth 100000 in
theorem obT {cs : List Value} (hl : cs.length = 10) (h : DataW.trod enc Tryz.prog W base sp held fuel 29 cs = some (d, p)) :
    ∃ o : Ob, ObjAt W No (.agg cs.toArray) o ∧ (Rows.uptoBulk d ≤ 1048576 → WideO o) := by
  obtain ⟨xs, k, hk, hxy, _, hxl, hf⟩ := DataW.trod_struct Tryz.underlying29 h
  match xs, hxl, cs, hl with
  | [y0, y1, y2, y3, y4, y5, y6, y7, y8, y9], _, [v0, v1, v2, v3, v4, v5, v6, v7, v8, v9], _ =>
    have g0 := hf 0 _ rfl
    have g1 := hf 1 _ rfl
    have g2 := hf 2 _ rfl
    have g3 := hf 3 _ rfl
    have g4 := hf 4 _ rfl
    have g5 := hf 5 _ rfl
    have g6 := hf 6 _ rfl
    have g7 := hf 7 _ rfl
    have g8 := hf 8 _ rfl
    have g9 := hf 9 _ rfl
    simp [Tryz.cells3, Tryz.cells23, Tryz.cells24, Tryz.cells25, Tryz.cells26, Tryz.cells27] at g0 g1 g2 g3 g4 g5 g6 g7 g8 g9
    obtain ⟨z0, rfl, w0⟩ := open_int1 g0
    obtain ⟨l1, s1, b1, w1⟩ := entsT g1
    obtain ⟨l2, s2, b2, w2⟩ := kidsT g2
    obtain ⟨z3, rfl, w3⟩ := open_int1 g3
    obtain ⟨l4, s4, b4, w4⟩ := bytesT g4
    obtain ⟨l5, s5, b5, w5⟩ := ownT g5
    obtain ⟨z6, rfl, w6⟩ := open_int1 g6
    obtain ⟨l7, s7, b7, w7⟩ := entsT g7
    obtain ⟨z8, rfl, w8⟩ := open_int1 g8
    obtain ⟨l9, s9, b9, w9⟩ := mapsT g9
    refine ⟨⟨z0, l1, l2, z3, l4, l5, z6, l7, z8, l9⟩, ⟨v2, ⟨v1, v4, v5, v7, v9, rfl, s1, s4, s5, s7, s9⟩, s2⟩, fun hb => ?_⟩
    have hd := (Prod.mk.inj hxy).1
    have hbk : ∀ y ∈ [y0, y1, y2, y3, y4, y5, y6, y7, y8, y9], Rows.uptoBulk y.1 ≤ 1048576 := fun y hy => by
      have h1 : Rows.uptoBulk y.1 ≤ Rows.uptoBulkAll ([y0, y1, y2, y3, y4, y5, y6, y7, y8, y9].map Prod.fst) := part_le (List.mem_map_of_mem (f := Prod.fst) hy)
      have h2 : Rows.uptoBulk d = Rows.uptoBulkAll ([y0, y1, y2, y3, y4, y5, y6, y7, y8, y9].map Prod.fst) + 1 := by rw [hd]; simp only [Rows.uptoBulk]
      omega
    have q1 := hbk y1 (by simp)
    have q2 := hbk y2 (by simp)
    have q4 := hbk y4 (by simp)
    have q5 := hbk y5 (by simp)
    have q7 := hbk y7 (by simp)
    have q9 := hbk y9 (by simp)
    exact { kind := w0, next := w3, cats := w6, ring := w8, lab := ⟨by show l1.length ≤ _; omega, fun e he => ⟨by have := (w1 e he).1; omega, (w1 e he).2⟩⟩, kids := ⟨by show l2.length ≤ _; omega, w2⟩, bytes := ⟨by show l4.length ≤ _; omega, w4⟩, own := ⟨by show l5.length ≤ _; omega, fun x hx => by have := w5 x hx; omega⟩, entry := ⟨by show l7.length ≤ _; omega, fun e he => ⟨by have := (w7 e he).1; omega, (w7 e he).2⟩⟩, maps := ⟨by show l9.length ≤ _; omega, fun m hm => ⟨(w9 m hm).1, by have := (w9 m hm).2.1; omega, (w9 m hm).2.2⟩⟩ }
end
end Go.Proofs.YtgcbfggoddkhnaaGreatDoor

namespace Go.Proofs.YtgcbfggoddkhnaaGreatDoor
open Go.ChangeShapes Go.WideShapes Go.ChangeAt Go.RowKit
def OpCs (W : World) (y : Opn) (cs : List Value) : Prop :=
  ∃ (Ap : Option Addr) (cp : Nat) (zk : Int) (AL : Option Addr) (nL cL : Nat) (Ak : Option Addr) (nk ck : Nat) (nx : Int) (AB : Option Addr) (nB cB : Nat) (AO : Option Addr) (nO cO : Nat) (ca : Int) (AN : Option Addr) (nN cN : Nat) (ri : Int) (AM : Option Addr) (nM cM : Nat), cs = [.int .i64 y.kind, .slice Ap y.path.length cp, .int .i64 zk, .slice AL nL cL, .slice Ak nk ck, .int .i64 nx, .slice AB nB cB, .slice AO nO cO, .int .i64 ca, .slice AN nN cN, .int .i64 ri, .slice AM nM cM, .int .i64 y.num] ∧ Pa.PL W Ap cp y.path ∧ ObjAt W No (.agg #[.int .i64 zk, .slice AL nL cL, .slice Ak nk ck, .int .i64 nx, .slice AB nB cB, .slice AO nO cO, .int .i64 ca, .slice AN nN cN, .int .i64 ri, .slice AM nM cM]) y.ob
set_option maxRecDepth 100000 in
theorem open_opl {H : Type} {enc : TypeId × Value → H} {W : World} {base : Nat} {sp : Nat → Bool} {held : Bool} {v : Value} {d : DataW H} {p : List MemPlace}
    (h : DataW.Trod enc Tryz.prog W base sp held 46 v d p) (hv : ∃ a len cap, v = .slice a len cap) (hb : Rows.uptoBulk d ≤ 1048576) :
    ∃ (A : Option Addr) (c : Nat) (l : List Opn), v = .slice A l.length c ∧ OpsL W A l := by
  obtain ⟨a, len, cap, rfl⟩ := hv
  obtain ⟨fuel, hf⟩ := h
  have hf : DataW.trod enc Tryz.prog W base sp held fuel 46 [.slice a len cap] = some (d, p) := hf
  obtain ⟨A, c, l, e, h1, h2, h3, h4, h5⟩ := open_row (α := Opn) (Q := fun y cs dd => OpCs W y cs ∧ (Rows.uptoBulk dd ≤ 1048576 → WideP y)) Tryz.underlying46 Tryz.cells54 (by omega) hf fun n cs dd pp hl ht => by
    obtain ⟨xs, k, hk, hxy, _, hxl, hg⟩ := DataW.trod_struct Tryz.underlying54 ht
    match xs, hxl, cs, hl with
    | [y0, y1, y2, y3], _, [v0, v1, v2, v3, v4, v5, v6, v7, v8, v9, v10, v11, v12], _ =>
      have g0 := hg 0 _ rfl
      have g1 := hg 1 _ rfl
      have g2 := hg 2 _ rfl
      have g3 := hg 3 _ rfl
      simp [Tryz.cells3, Tryz.cells43, Tryz.cells29] at g0 g1 g2 g3
      obtain ⟨z0, rfl, w0⟩ := open_int1 g0
      obtain ⟨A1, c1, l1, rfl, b1, p1⟩ := numsT g1
      obtain ⟨o, ho, hw⟩ := obT rfl g2
      obtain ⟨z3, rfl, w3⟩ := open_int1 g3
      obtain ⟨vk, hk1, hs1⟩ := id ho
      obtain ⟨zk, AL, nL, cL, Ak, nk, ck, nx, AB, nB, cB, AO, nO, cO, ca, AN, nN, cN, ri, AM, nM, cM, e⟩ := hk1.shape hs1
      injection e with e
      simp only [Array.mk.injEq, List.cons.injEq] at e
      obtain ⟨rfl, rfl, rfl, rfl, rfl, rfl, rfl, rfl, rfl, rfl, _⟩ := e
      refine ⟨⟨z0, l1, o, z3⟩, ⟨A1, c1, zk, AL, nL, cL, Ak, nk, ck, nx, AB, nB, cB, AO, nO, cO, ca, AN, nN, cN, ri, AM, nM, cM, rfl, p1, ho⟩, fun hbd => ?_⟩
      have hd := (Prod.mk.inj hxy).1
      have hbk : ∀ y ∈ [y0, y1, y2, y3], Rows.uptoBulk y.1 ≤ 1048576 := fun y hy => by
        have h1 : Rows.uptoBulk y.1 ≤ Rows.uptoBulkAll ([y0, y1, y2, y3].map Prod.fst) := part_le (List.mem_map_of_mem (f := Prod.fst) hy)
        have h2 : Rows.uptoBulk dd = Rows.uptoBulkAll ([y0, y1, y2, y3].map Prod.fst) + 1 := by rw [hd]; simp only [Rows.uptoBulk]
        omega
      exact ⟨w0, w3, by have := hbk y1 (by simp); show l1.length ≤ _; omega, hw (hbk y2 (by simp))⟩
  refine ⟨A, c, l, e, fun hp => ?_, fun x hx => ?_, by omega⟩
  · obtain ⟨b, o, e1, hlt, hc⟩ := h5 hp
    refine ⟨b, o, e1, fun i x hx => ?_⟩
    obtain ⟨cs, dd, ⟨⟨Ap, cp, zk, AL, nL, cL, Ak, nk, ck, nx, AB, nB, cB, AO, nO, cO, ca, AN, nN, cN, ri, AM, nM, cM, rfl, hpl, hob⟩, _⟩, _, hcell⟩ := hc i x hx
    exact ⟨Ap, cp, zk, AL, nL, cL, Ak, nk, ck, nx, AB, nB, cB, AO, nO, cO, ca, AN, nN, cN, ri, AM, nM, cM, hcell 0 _ rfl, hcell 1 _ rfl, hcell 2 _ rfl, hcell 3 _ rfl, hcell 4 _ rfl, hcell 5 _ rfl, hcell 6 _ rfl, hcell 7 _ rfl, hcell 8 _ rfl, hcell 9 _ rfl, hcell 10 _ rfl, hcell 11 _ rfl, hcell 12 _ rfl, hpl, hob⟩
  · obtain ⟨cs, dd, ⟨_, hw⟩, hbb⟩ := h4 x hx
    exact hw (by omega)
end Go.Proofs.YtgcbfggoddkhnaaGreatDoor
