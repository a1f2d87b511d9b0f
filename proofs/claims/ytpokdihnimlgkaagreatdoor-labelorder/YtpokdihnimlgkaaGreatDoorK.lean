/- The reference: Get, walked. -/
import Derived.Test.YtpokdihnimlgkaaGreatDoorJ
import Derived.Maps.AppendAt
namespace Go.Proofs.YtpokdihnimlgkaaGreatDoor
open Go.RowKit

theorem scan_dig {x : UInt8} {r : List UInt8} {p : List Nat} {n d y : Nat} (h0 : x.toNat = 48 + y) (h1 : y ≤ 9) (hd : d < 8) : scan (x :: r) p n d = scan r p (10 * n + y) (d + 1) := by
  simp only [scan]
  rw [if_pos (by omega), if_neg (by omega), h0, Nat.add_sub_cancel_left]
theorem scan_long {x : UInt8} {r : List UInt8} {p : List Nat} {n y : Nat} (h0 : x.toNat = 48 + y) (h1 : y ≤ 9) : scan (x :: r) p n 8 = none := by
  simp only [scan]
  rw [if_pos (by omega), if_pos (by omega)]
theorem scan_end {x : UInt8} {r : List UInt8} {p : List Nat} {n d : Nat} (h0 : x.toNat = 46 ∨ x.toNat = 47) : scan (x :: r) p n d = scan r (if 0 < d then p ++ [n] else p) 0 0 := by
  have hx : x = 46 ∨ x = 47 := by
    rcases h0 with h | h
    · exact .inl (UInt8.toNat_inj.1 h)
    · exact .inr (UInt8.toNat_inj.1 h)
  simp only [scan]
  rw [if_neg (by omega), if_pos hx]
theorem scan_skip {x : UInt8} {r : List UInt8} {p : List Nat} {n d : Nat} (h : ¬ (48 ≤ x.toNat ∧ x.toNat ≤ 57)) (h1 : x.toNat ≠ 46) (h2 : x.toNat ≠ 47) : scan (x :: r) p n d = scan r p n d := by
  simp only [scan]
  rw [if_neg h, if_neg (by rintro (rfl | rfl) <;> simp at h1 h2)]

set_option maxRecDepth 100000 in
set_option maxHeartbeats 4000000 in
theorem get_any {w : World} {s : List UInt8} (hn : s.length ≤ 100000) : Calls Tryz.prog 59 #[.string (str s)] w (RetGet w s) := by
  obtain ⟨S, hS⟩ : ∃ S, S = str s := ⟨_, rfl⟩
  have HS := Lib.hid hS
  have hsz : S.size = s.length := by rw [hS, str_size]
  rw [← hS]
  clear hS
  go_enter Tryz.func59, Tryz.ntmps59
  go_wp2_with fail
  go_loopg [5, 6, 7] s.length (fun k a b i wr => GetRel w s k a b i wr)
  case atStart => exact ⟨0, 0, 0, [], by simp, rfl, rfl, rfl, by simp, by omega, by omega, by simp, by simp, gath_start w⟩
  case round =>
    obtain ⟨m, n, d, p, hmk, ha, hb, hi, hsc, hd, hn10, hpl, hpn, hg0, ⟨v, hg1, hrow⟩, hbl, hsz2⟩ := hrel
    subst ha hb hi
    have hn8 := pow_le8 hn10 hd
    have G0 := Lib.hid hg0
    have G1 := Lib.hid hg1
    have GR := Lib.hid hrow
    have BB := Lib.hid hbl
    have HP := Lib.hid hpn
    obtain ⟨A, c, rfl⟩ := hrow.slice
    have c0 : wr.cell? ⟨w.heap.size + 1, 0, none⟩ = some (.slice A p.length c) := hg1.cell0
    have c1 : wr.cell? ⟨w.heap.size + 1, 1, none⟩ = some (.int .i64 0) := hg1.cell1
    have f0 := hg1.frozen 0
    have f1 := hg1.frozen 1
    have r0 := hg0.cell0
    have r1 := hg0.cell1
    have g0 := hg0.frozen 0
    have g1 := hg0.frozen 1
    clear hg0 hg1 hrow hbl hpn
    cases gk with
    | zero =>
      have hge : s.length ≤ m := by omega
      have HSC : Hid (scan s [] 0 0 = some (p, n)) := by rw [← hsc, List.drop_eq_nil_of_le hge]; exact rfl
      obtain ⟨W1, hW1⟩ : ∃ W1, W1 = wr.setCell ⟨w.heap.size + 1, 1, none⟩ (.int .i64 (n : Int)) := ⟨_, rfl⟩
      have hne : ∀ k, k < w.heap.size + 2 → (Value.slice A p.length c).ownBlock ≠ some k := fun k hk e => by
        have := (World.ownsRow.lt GR.out k e).1
        omega
      have P1 : Hid (Pair W1 (w.heap.size + 1) (.slice A p.length c) n) := by rw [hW1]; exact G1.out.set1 n
      have P0 : Hid (Pair W1 w.heap.size (.slice none 0 0) 0) := by rw [hW1]; exact G0.out.kept (grown_setCell _ _ _) (by intro e; injection e with e; simp at e)
      have PR : Hid (NumRow W1 (w.heap.size + 2) (.slice A p.length c) p) := by rw [hW1]; exact World.ownsRow.kept GR.out (grown_setCell _ _ _) (.inr (hne _ (by simp)))
      have PB : Hid (Below w.heap.size w W1) := by rw [hW1]; exact BB.out.setCell (p := ⟨w.heap.size + 1, 1, none⟩) (by simp) _
      obtain ⟨A1, c1', hv1, hI1⟩ := PR.out.ints HP.out
      have hA1 : A1 = A ∧ c1' = c := by injection hv1 with h1 _ h2; exact ⟨h1.symm, h2.symm⟩
      rw [hA1.1] at hI1
      have H12 := Lib.hid (fits_any (c := c) (n := (n : Int)) hI1 (by rw [ints_length]; omega))
      rw [ints_length] at H12
      have HI1 := Lib.hid hI1
      have HW1 := Lib.hid hW1
      clear G0 G1 GR BB hsc hmk hW1 hI1 hA1 hv1 r0 r1 g0 g1
      go_wp2_with fail
      rw [← HW1.out]
      refine H12.out.mono ?_
      rintro e w2 ⟨rfl, hb2⟩
      have P1' := P1.out.kept (grown_of_below hb2) (by simp)
      have P0' := P0.out.kept (grown_of_below hb2) (by simp)
      have d0 : w2.cell? ⟨w.heap.size + 1, 0, none⟩ = some (.slice A p.length c) := P1'.cell0
      have d1 : w2.cell? ⟨w.heap.size + 1, 1, none⟩ = some (.int .i64 (n : Int)) := P1'.cell1
      have r0 := P0'.cell0
      have r1 := P0'.cell1
      have g0 := P0'.frozen 0
      have g1 := P0'.frozen 1
      have Q0 := Lib.hid P0'
      have QB := Lib.hid (PB.out.trans (hb2.mono PB.out.size))
      by_cases hfit : Fits p n
      · have HF := Lib.hid hfit
        rw [decide_eq_true (ok_ints.2 hfit)]
        have Q1 := Lib.hid P1'
        have QR := Lib.hid (PR.out.below hb2)
        have H13 := Lib.hid (text_any (c := c) (n := (n : Int)) ((HI1.out.below hb2).more hb2.size) (ok_ints.2 hfit))
        rw [ints_length, nats_ints, Int.toNat_natCast] at H13
        clear hb2 P0' P1' H12 c0 c1 f0 f1 P0 P1 PR PB HI1 hfit
        by_cases hs : catText p n = s
        · have HC : Hid (catOf s = some (p, n)) := catOf_iff.2 ⟨HF.out, hs.symm⟩
          have hq : ((str (catText p n)).toList == S.toList) = true := by rw [HS.out]; exact str_same hs
          obtain ⟨T, hT⟩ : ∃ T, T = str (catText p n) := ⟨_, rfl⟩
          rw [← hT] at hq H13
          clear hT hs
          go_wp2_with fail
          refine H13.out.mono ?_
          rintro e w3 ⟨rfl, hb3⟩
          have D1 := Lib.hid (Q1.out.kept (grown_of_below hb3) (by simp))
          have D0 := Lib.hid (Q0.out.kept (grown_of_below hb3) (by simp))
          have DB := Lib.hid (QB.out.trans (hb3.mono QB.out.size))
          have DR := Lib.hid (QR.out.below hb3)
          clear d0 d1 r0 r1 g0 g1 hb3 H13
          have d0 : w3.cell? ⟨w.heap.size + 1, 0, none⟩ = some (.slice A p.length c) := D1.out.cell0
          have d1 : w3.cell? ⟨w.heap.size + 1, 1, none⟩ = some (.int .i64 (n : Int)) := D1.out.cell1
          have r0 := D0.out.cell0
          have r1 := D0.out.cell1
          have g0 := D0.out.frozen 0
          have g1 := D0.out.frozen 1
          go_wp2_with fail
          have P := (D0.out.set0 (.slice A p.length c)).set1 (n : Int)
          have R1 := World.ownsRow.kept (World.ownsRow.kept DR.out (grown_setCell w3 ⟨w.heap.size, 0, none⟩ (.slice A p.length c)) (.inr (hne _ (by simp)))) (grown_setCell _ ⟨w.heap.size, 1, none⟩ (.int .i64 (n : Int))) (.inr (hne _ (by simp)))
          have R2 : NumRow _ (w.heap.size + 2) _ p := R1
          refine bodyPost_ret (v := .tuple #[.agg #[.slice A p.length c, .int .i64 (n : Int)], .bool true]) ?_ rfl ⟨(DB.out.setCell (p := ⟨w.heap.size, 0, none⟩) (Nat.le_refl _) _).setCell (p := ⟨w.heap.size, 1, none⟩) (Nat.le_refl _) _, .inl ⟨p, n, _, HC.out, rfl, R2.mono (by omega)⟩⟩
          simp [results, Tryz.f59, go_sem, P.cell0, P.cell1]
        · have HC : Hid (catOf s = none) := by
            unfold Hid catOf
            rw [HSC.out]
            exact if_neg fun h => hs h.2
          have hq : ((str (catText p n)).toList == S.toList) = false := by rw [HS.out]; exact str_differs hs
          obtain ⟨T, hT⟩ : ∃ T, T = str (catText p n) := ⟨_, rfl⟩
          rw [← hT] at hq H13
          clear hT hs
          go_wp2_with fail
          refine H13.out.mono ?_
          rintro e w3 ⟨rfl, hb3⟩
          have D0 := Lib.hid (Q0.out.kept (grown_of_below hb3) (by simp))
          have DB := Lib.hid (QB.out.trans (hb3.mono QB.out.size))
          clear d0 d1 r0 r1 g0 g1 hb3 H13
          have r0 := D0.out.cell0
          have r1 := D0.out.cell1
          have g0 := D0.out.frozen 0
          have g1 := D0.out.frozen 1
          go_wp2_with fail
          have P := (D0.out.set0 (.slice none 0 0)).set1 0
          refine bodyPost_ret (v := .tuple #[.agg #[.slice none 0 0, .int .i64 0], .bool false]) ?_ rfl ⟨(DB.out.setCell (p := ⟨w.heap.size, 0, none⟩) (Nat.le_refl _) _).setCell (p := ⟨w.heap.size, 1, none⟩) (Nat.le_refl _) _, .inr ⟨HC.out, rfl⟩⟩
          simp [results, Tryz.f59, go_sem, P.cell0, P.cell1]
      · have HC : Hid (catOf s = none) := by
          unfold Hid catOf
          rw [HSC.out]
          exact if_neg fun h => hfit h.1
        rw [decide_eq_false (fun h => hfit (ok_ints.1 h))]
        clear hb2 P0' P1' H12 c0 c1 f0 f1 P0 P1 PR PB HI1 hfit
        go_wp2_with fail
        have P := (Q0.out.set0 (.slice none 0 0)).set1 0
        refine bodyPost_ret (v := .tuple #[.agg #[.slice none 0 0, .int .i64 0], .bool false]) ?_ rfl ⟨(QB.out.setCell (p := ⟨w.heap.size, 0, none⟩) (Nat.le_refl _) _).setCell (p := ⟨w.heap.size, 1, none⟩) (Nat.le_refl _) _, .inr ⟨HC.out, rfl⟩⟩
        simp [results, Tryz.f59, go_sem, P.cell0, P.cell1]
    | succ j =>
      have hm : m < s.length := by omega
      obtain ⟨x, hx⟩ : ∃ x, s[m]? = some x := ⟨_, List.getElem?_eq_getElem hm⟩
      have q := str_index HS.out hx
      rw [drop_at hx] at hsc
      have HM := Lib.hid hmk
      obtain ⟨X, hX⟩ : ∃ X, X = x.toNat := ⟨_, rfl⟩
      rw [← hX] at q
      clear hmk hx
      by_cases hdig : 48 ≤ X ∧ X ≤ 57
      · obtain ⟨y, hy⟩ : ∃ y, X = 48 + y := ⟨X - 48, by omega⟩
        have hy9 : y ≤ 9 := by omega
        have e1 : ((X : Int) - 48) % 256 = (y : Int) := by omega
        have e2 : IntKind.u8.wrap ((X : Int) - 48) = (y : Int) := by simp [IntKind.wrap, IntKind.bits, IntKind.signed]; omega
        have k1 := hdig.1
        have k2 := hdig.2
        by_cases h8 : d = 8
        · subst h8
          have HC : Hid (catOf s = none) := by
            rw [scan_long (by omega) hy9] at hsc
            unfold Hid catOf
            rw [← hsc]
          clear hsc hX hdig hy
          go_wp2_with fail
          have P := (G0.out.set0 (.slice none 0 0)).set1 0
          refine bodyPost_ret (v := .tuple #[.agg #[.slice none 0 0, .int .i64 0], .bool false]) ?_ rfl ⟨(BB.out.setCell (p := ⟨w.heap.size, 0, none⟩) (Nat.le_refl _) _).setCell (p := ⟨w.heap.size, 1, none⟩) (Nat.le_refl _) _, .inr ⟨HC.out, rfl⟩⟩
          simp [results, Tryz.f59, go_sem, P.cell0, P.cell1]
        · have hd8 : d < 8 := by omega
          have HSC : Hid (scan (s.drop (m + 1)) p (10 * n + y) (d + 1) = scan s [] 0 0) := by rw [← hsc, scan_dig (by omega) hy9 hd8]; exact rfl
          have HN : Hid (10 * n + y < 10 ^ (d + 1)) := by rw [Hid, Nat.pow_succ]; omega
          clear hsc hX hdig hy h8 hn10
          go_wp2_with fail
          go_roundg j
          case measure => omega
          case rel => exact ⟨m + 1, 10 * n + y, d + 1, p, by have := HM.out; omega, by go_num, by go_num, by go_num, HSC.out, by omega, HN.out, by omega, HP.out, G0.out, ⟨_, G1.out, GR.out⟩, BB.out, hsz2⟩
      · by_cases hsep : X = 46 ∨ X = 47
        · have HN0 : Hid (∀ u ∈ p ++ [n], u < 100000000) := fun u hu => by
            rcases List.mem_append.1 hu with h | h
            · exact HP.out u h
            · simp at h; subst h; exact hn8
          rw [scan_end (by omega)] at hsc
          clear hdig hX
          by_cases hd0 : d = 0
          · subst hd0
            have HSC : Hid (scan (s.drop (m + 1)) p 0 0 = scan s [] 0 0) := hsc
            clear hsc
            rcases hsep with rfl | rfl
            · go_wp2_with fail
              go_roundg j
              case measure => omega
              case rel => exact ⟨m + 1, 0, 0, p, by have := HM.out; omega, rfl, rfl, by go_num, HSC.out, by omega, by omega, by omega, HP.out, G0.out, ⟨_, G1.out, GR.out⟩, BB.out, hsz2⟩
            · go_wp2_with fail
              go_roundg j
              case measure => omega
              case rel => exact ⟨m + 1, 0, 0, p, by have := HM.out; omega, rfl, rfl, by go_num, HSC.out, by omega, by omega, by omega, HP.out, G0.out, ⟨_, G1.out, GR.out⟩, BB.out, hsz2⟩
          · have hdp : 0 < d := by omega
            have HSC : Hid (scan (s.drop (m + 1)) (p ++ [n]) 0 0 = scan s [] 0 0) := by rw [if_pos hdp] at hsc; exact hsc
            have hpl2 : p.length + 1 ≤ 1000000 := by omega
            have hbase : w.heap.size + 2 ≤ (wr.alloc (.cells #[.int .i64 (n : Int)] 3)).heap.size := by simp; omega
            clear hsc hd0
            rcases hsep with rfl | rfl
            · go_wp2_with (first
                | (at_builtin; refine wpList_append_num rfl _ _ rfl (w.heap.size + 2) _ p rfl (World.ownsRow.alloc GR.out _) ⟨wr.heap.size, 0, none⟩ n rfl (cell_one_new _ _ _) hpl2 hbase ?_))
              intro v' w1 hown hgrow
              obtain ⟨A', c', rfl⟩ := hown.slice
              obtain ⟨p1, p2⟩ := gath_append G0.out G1.out GR.out BB.out hsz2 hown hgrow
              rw [show (p ++ [n]).length = p.length + 1 by simp] at p2 ⊢
              have d0 : w1.cell? ⟨w.heap.size + 1, 0, none⟩ = some (.slice A p.length c) := p1.cell0
              have e0 := p1.frozen 0
              have P2 := Lib.hid p2
              clear p1 p2 hown hgrow c0 c1 f0 f1 r0 r1 g0 g1
              go_wp2_with fail
              go_roundg j
              case measure => omega
              case rel => exact ⟨m + 1, 0, 0, p ++ [n], by have := HM.out; omega, rfl, rfl, by go_num, HSC.out, by omega, by omega, by simp; omega, HN0.out, P2.out⟩
            · go_wp2_with (first
                | (at_builtin; refine wpList_append_num rfl _ _ rfl (w.heap.size + 2) _ p rfl (World.ownsRow.alloc GR.out _) ⟨wr.heap.size, 0, none⟩ n rfl (cell_one_new _ _ _) hpl2 hbase ?_))
              intro v' w1 hown hgrow
              obtain ⟨A', c', rfl⟩ := hown.slice
              obtain ⟨p1, p2⟩ := gath_append G0.out G1.out GR.out BB.out hsz2 hown hgrow
              rw [show (p ++ [n]).length = p.length + 1 by simp] at p2 ⊢
              have d0 : w1.cell? ⟨w.heap.size + 1, 0, none⟩ = some (.slice A p.length c) := p1.cell0
              have e0 := p1.frozen 0
              have P2 := Lib.hid p2
              clear p1 p2 hown hgrow c0 c1 f0 f1 r0 r1 g0 g1
              go_wp2_with fail
              go_roundg j
              case measure => omega
              case rel => exact ⟨m + 1, 0, 0, p ++ [n], by have := HM.out; omega, rfl, rfl, by go_num, HSC.out, by omega, by omega, by simp; omega, HN0.out, P2.out⟩
        · have n1 : ((X : Int) == 46) = false := by simp; omega
          have n2 : ((X : Int) == 47) = false := by simp; omega
          have HSC : Hid (scan (s.drop (m + 1)) p n d = scan s [] 0 0) := by rw [← hsc, scan_skip (by omega) (by omega) (by omega)]; exact rfl
          have HN := Lib.hid hn10
          clear hsc hX hsep hn10
          by_cases k1 : 48 ≤ X
          · have k2 : ¬ X ≤ 57 := by omega
            clear hdig
            go_wp2_with fail
            go_roundg j
            case measure => omega
            case rel => exact ⟨m + 1, n, d, p, by have := HM.out; omega, rfl, rfl, by go_num, HSC.out, hd, HN.out, by omega, HP.out, G0.out, ⟨_, G1.out, GR.out⟩, BB.out, hsz2⟩
          · clear hdig
            go_wp2_with fail
            go_roundg j
            case measure => omega
            case rel => exact ⟨m + 1, n, d, p, by have := HM.out; omega, rfl, rfl, by go_num, HSC.out, hd, HN.out, by omega, HP.out, G0.out, ⟨_, G1.out, GR.out⟩, BB.out, hsz2⟩
end Go.Proofs.YtpokdihnimlgkaaGreatDoor
