/- Lemmas for the law: K, V, Lb, Fl, Om, Oa. -/
import Derived.Test.YtgcbfggoddkhnaaGreatDoorM02
import Derived.Maps.AppendAt
import Derived.Test.YtgcbfggoddkhnaaGreatDoorM03
namespace Go.Proofs.YtgcbfggoddkhnaaGreatDoor
open Go.RowKit
theorem scan_dig {x : UInt8} {r : List UInt8} {p : List Nat} {n d y : Nat} (h0 : x.toNat = 48 + y) (h1 : y ≤ 9) (hd : d < 8) : scan (x :: r) p n d = scan r p (10 * n + y) (d + 1) := by
 simp only [scan]
 rw [if_pos (by omega), if_neg (by omega), h0, Nat.add_sub_cancel_left]
theorem scan_long {x : UInt8} {r : List UInt8} {p : List Nat} {n y : Nat} (h0 : x.toNat = 48 + y) (h1 : y ≤ 9) : scan (x :: r) p n 8 = none := by
 simp only [scan]
 rw [if_pos (by omega), if_pos (by omega)]
theorem scan_end {x : UInt8} {r : List UInt8} {p : List Nat} {n d : Nat} (h0 : x.toNat = 46 ∨ x.toNat = 47) : scan (x :: r) p n d = scan r (if 0 < d then p ++ [n] else p) 0 0 := by
 have hx : x = 46 ∨ x = 47 := by
  rcases h0 with h | h
  · exact .inl (UInt8.toNat_inj.1 h)
  · exact .inr (UInt8.toNat_inj.1 h)
 simp only [scan]
 rw [if_neg (by omega), if_pos hx]
theorem scan_skip {x : UInt8} {r : List UInt8} {p : List Nat} {n d : Nat} (h : ¬ (48 ≤ x.toNat ∧ x.toNat ≤ 57)) (h1 : x.toNat ≠ 46) (h2 : x.toNat ≠ 47) : scan (x :: r) p n d = scan r p n d := by
 simp only [scan]
 rw [if_neg h, if_neg (by rintro (rfl | rfl) <;> simp at h1 h2)]
set_option maxRecDepth 100000 in
set_option maxHeartbeats 4000000 in
theorem get_any {w : World} {s : List UInt8} (hn : s.length ≤ 1048576) : Calls Tryz.prog 109 #[.string (str s)] w (RetGet w s) := by
 obtain ⟨S, hS⟩ : ∃ S, S = str s := ⟨_, rfl⟩
 have HS := Lib.hid hS
 have hsz : S.size = s.length := by rw [hS, str_size]
 rw [← hS]
 clear hS
 go_enter Tryz.func109, Tryz.ntmps109
 go_wp2_with fail
 go_loopg [5, 6, 7] s.length (fun k a b i wr => GetRel w s k a b i wr)
 case atStart => exact ⟨0, 0, 0, [], by simp, rfl, rfl, rfl, by simp, by omega, by omega, by simp, by simp, gath_start w⟩
 case round =>
  obtain ⟨m, n, d, p, hmk, ha, hb, hi, hsc, hd, hn10, hpl, hpn, hg0, ⟨v, hg1, hrow⟩, hbl, hsz2⟩ := hrel
  subst ha hb hi
  have hn8 := pow_le8 hn10 hd
  have G0 := Lib.hid hg0
  have G1 := Lib.hid hg1
  have GR := Lib.hid hrow
  have BB := Lib.hid hbl
  have HP := Lib.hid hpn
  obtain ⟨A, c, rfl⟩ := hrow.slice
  have c0 : wr.cell? ⟨w.heap.size + 1, 0, none⟩ = some (.slice A p.length c) := hg1.cell0
  have c1 : wr.cell? ⟨w.heap.size + 1, 1, none⟩ = some (.int .i64 0) := hg1.cell1
  have f0 := hg1.frozen 0
  have f1 := hg1.frozen 1
  have r0 := hg0.cell0
  have r1 := hg0.cell1
  have g0 := hg0.frozen 0
  have g1 := hg0.frozen 1
  clear hg0 hg1 hrow hbl hpn
  cases gk with
  | zero =>
   have hge : s.length ≤ m := by omega
   have HSC : Hid (scan s [] 0 0 = some (p, n)) := by rw [← hsc, List.drop_eq_nil_of_le hge]; exact rfl
   obtain ⟨W1, hW1⟩ : ∃ W1, W1 = wr.setCell ⟨w.heap.size + 1, 1, none⟩ (.int .i64 (n : Int)) := ⟨_, rfl⟩
   have hne : ∀ k, k < w.heap.size + 2 → (Value.slice A p.length c).ownBlock ≠ some k := fun k hk e => by
     have := (World.ownsRow.lt GR.out k e).1
     omega
   have P1 : Hid (Pair W1 (w.heap.size + 1) (.slice A p.length c) n) := by rw [hW1]; exact G1.out.set1 n
   have P0 : Hid (Pair W1 w.heap.size (.slice none 0 0) 0) := by rw [hW1]; exact G0.out.kept (grown_setCell _ _ _) (by intro e; injection e with e; simp at e)
   have PR : Hid (NumRow W1 (w.heap.size + 2) (.slice A p.length c) p) := by rw [hW1]; exact World.ownsRow.kept GR.out (grown_setCell _ _ _) (.inr (hne _ (by simp)))
   have PB : Hid (Below w.heap.size w W1) := by rw [hW1]; exact BB.out.setCell (p := ⟨w.heap.size + 1, 1, none⟩) (by simp) _
   obtain ⟨A1, c1', hv1, hI1⟩ := PR.out.ints HP.out
   have hA1 : A1 = A ∧ c1' = c := by injection hv1 with h1 _ h2; exact ⟨h1.symm, h2.symm⟩
   rw [hA1.1] at hI1
   have H12 := Lib.hid (fits_any (c := c) (n := (n : Int)) hI1 (by rw [ints_length]; omega))
   rw [ints_length] at H12
   have HI1 := Lib.hid hI1
   have HW1 := Lib.hid hW1
   clear G0 G1 GR BB hsc hmk hW1 hI1 hA1 hv1 r0 r1 g0 g1
   go_wp2_with fail
   rw [← HW1.out]
   refine H12.out.mono ?_
   rintro e w2 ⟨rfl, hb2⟩
   have P1' := P1.out.kept (grown_of_below hb2) (by simp)
   have P0' := P0.out.kept (grown_of_below hb2) (by simp)
   have d0 : w2.cell? ⟨w.heap.size + 1, 0, none⟩ = some (.slice A p.length c) := P1'.cell0
   have d1 : w2.cell? ⟨w.heap.size + 1, 1, none⟩ = some (.int .i64 (n : Int)) := P1'.cell1
   have r0 := P0'.cell0
   have r1 := P0'.cell1
   have g0 := P0'.frozen 0
   have g1 := P0'.frozen 1
   have Q0 := Lib.hid P0'
   have QB := Lib.hid (PB.out.trans (hb2.mono PB.out.size))
   by_cases hfit : Fits p n
   · have HF := Lib.hid hfit
     rw [decide_eq_true (ok_ints.2 hfit)]
     have Q1 := Lib.hid P1'
     have QR := Lib.hid (PR.out.below hb2)
     have H13 := Lib.hid (text_any (c := c) (n := (n : Int)) ((HI1.out.below hb2).more hb2.size) (ok_ints.2 hfit))
     rw [ints_length, nats_ints, Int.toNat_natCast] at H13
     clear hb2 P0' P1' H12 c0 c1 f0 f1 P0 P1 PR PB HI1 hfit
     by_cases hs : catText p n = s
     · have HC : Hid (catOf s = some (p, n)) := catOf_iff.2 ⟨HF.out, hs.symm⟩
       have hq : ((str (catText p n)).toList == S.toList) = true := by rw [HS.out]; exact str_same hs
       obtain ⟨T, hT⟩ : ∃ T, T = str (catText p n) := ⟨_, rfl⟩
       rw [← hT] at hq H13
       clear hT hs
       go_wp2_with fail
       refine H13.out.mono ?_
       rintro e w3 ⟨rfl, hb3⟩
       have D1 := Lib.hid (Q1.out.kept (grown_of_below hb3) (by simp))
       have D0 := Lib.hid (Q0.out.kept (grown_of_below hb3) (by simp))
       have DB := Lib.hid (QB.out.trans (hb3.mono QB.out.size))
       have DR := Lib.hid (QR.out.below hb3)
       clear d0 d1 r0 r1 g0 g1 hb3 H13
       have d0 : w3.cell? ⟨w.heap.size + 1, 0, none⟩ = some (.slice A p.length c) := D1.out.cell0
       have d1 : w3.cell? ⟨w.heap.size + 1, 1, none⟩ = some (.int .i64 (n : Int)) := D1.out.cell1
       have r0 := D0.out.cell0
       have r1 := D0.out.cell1
       have g0 := D0.out.frozen 0
       have g1 := D0.out.frozen 1
       go_wp2_with fail
       have P := (D0.out.set0 (.slice A p.length c)).set1 (n : Int)
       have R1 := World.ownsRow.kept (World.ownsRow.kept DR.out (grown_setCell w3 ⟨w.heap.size, 0, none⟩ (.slice A p.length c)) (.inr (hne _ (by simp)))) (grown_setCell _ ⟨w.heap.size, 1, none⟩ (.int .i64 (n : Int))) (.inr (hne _ (by simp)))
       have R2 : NumRow _ (w.heap.size + 2) _ p := R1
       refine bodyPost_ret (v := .tuple #[.agg #[.slice A p.length c, .int .i64 (n : Int)], .bool true]) ?_ rfl ⟨(DB.out.setCell (p := ⟨w.heap.size, 0, none⟩) (Nat.le_refl _) _).setCell (p := ⟨w.heap.size, 1, none⟩) (Nat.le_refl _) _, .inl ⟨p, n, _, HC.out, rfl, R2.mono (by omega)⟩⟩
       simp [results, Tryz.f109, go_sem, P.cell0, P.cell1]
     · have HC : Hid (catOf s = none) := by
         unfold Hid catOf
         rw [HSC.out]
         exact if_neg fun h => hs h.2
       have hq : ((str (catText p n)).toList == S.toList) = false := by rw [HS.out]; exact str_differs hs
       obtain ⟨T, hT⟩ : ∃ T, T = str (catText p n) := ⟨_, rfl⟩
       rw [← hT] at hq H13
       clear hT hs
       go_wp2_with fail
       refine H13.out.mono ?_
       rintro e w3 ⟨rfl, hb3⟩
       have D0 := Lib.hid (Q0.out.kept (grown_of_below hb3) (by simp))
       have DB := Lib.hid (QB.out.trans (hb3.mono QB.out.size))
       clear d0 d1 r0 r1 g0 g1 hb3 H13
       have r0 := D0.out.cell0
       have r1 := D0.out.cell1
       have g0 := D0.out.frozen 0
       have g1 := D0.out.frozen 1
       go_wp2_with fail
       have P := (D0.out.set0 (.slice none 0 0)).set1 0
       refine bodyPost_ret (v := .tuple #[.agg #[.slice none 0 0, .int .i64 0], .bool false]) ?_ rfl ⟨(DB.out.setCell (p := ⟨w.heap.size, 0, none⟩) (Nat.le_refl _) _).setCell (p := ⟨w.heap.size, 1, none⟩) (Nat.le_refl _) _, .inr ⟨HC.out, rfl⟩⟩
       simp [results, Tryz.f109, go_sem, P.cell0, P.cell1]
   · have HC : Hid (catOf s = none) := by
       unfold Hid catOf
       rw [HSC.out]
       exact if_neg fun h => hfit h.1
     rw [decide_eq_false (fun h => hfit (ok_ints.1 h))]
     clear hb2 P0' P1' H12 c0 c1 f0 f1 P0 P1 PR PB HI1 hfit
     go_wp2_with fail
     have P := (Q0.out.set0 (.slice none 0 0)).set1 0
     refine bodyPost_ret (v := .tuple #[.agg #[.slice none 0 0, .int .i64 0], .bool false]) ?_ rfl ⟨(QB.out.setCell (p := ⟨w.heap.size, 0, none⟩) (Nat.le_refl _) _).setCell (p := ⟨w.heap.size, 1, none⟩) (Nat.le_refl _) _, .inr ⟨HC.out, rfl⟩⟩
     simp [results, Tryz.f109, go_sem, P.cell0, P.cell1]
  | succ j =>
   have hm : m < s.length := by omega
   obtain ⟨x, hx⟩ : ∃ x, s[m]? = some x := ⟨_, List.getElem?_eq_getElem hm⟩
   have q := str_index HS.out hx
   rw [drop_at hx] at hsc
   have HM := Lib.hid hmk
   obtain ⟨X, hX⟩ : ∃ X, X = x.toNat := ⟨_, rfl⟩
   rw [← hX] at q
   clear hmk hx
   by_cases hdig : 48 ≤ X ∧ X ≤ 57
   · obtain ⟨y, hy⟩ : ∃ y, X = 48 + y := ⟨X - 48, by omega⟩
     have hy9 : y ≤ 9 := by omega
     have e1 : ((X : Int) - 48) % 256 = (y : Int) := by omega
     have e2 : IntKind.u8.wrap ((X : Int) - 48) = (y : Int) := by simp [IntKind.wrap, IntKind.bits, IntKind.signed]; omega
     have k1 := hdig.1
     have k2 := hdig.2
     by_cases h8 : d = 8
     · subst h8
       have HC : Hid (catOf s = none) := by
         rw [scan_long (by omega) hy9] at hsc
         unfold Hid catOf
         rw [← hsc]
       clear hsc hX hdig hy
       go_wp2_with fail
       have P := (G0.out.set0 (.slice none 0 0)).set1 0
       refine bodyPost_ret (v := .tuple #[.agg #[.slice none 0 0, .int .i64 0], .bool false]) ?_ rfl ⟨(BB.out.setCell (p := ⟨w.heap.size, 0, none⟩) (Nat.le_refl _) _).setCell (p := ⟨w.heap.size, 1, none⟩) (Nat.le_refl _) _, .inr ⟨HC.out, rfl⟩⟩
       simp [results, Tryz.f109, go_sem, P.cell0, P.cell1]
     · have hd8 : d < 8 := by omega
       have HSC : Hid (scan (s.drop (m + 1)) p (10 * n + y) (d + 1) = scan s [] 0 0) := by rw [← hsc, scan_dig (by omega) hy9 hd8]; exact rfl
       have HN : Hid (10 * n + y < 10 ^ (d + 1)) := by rw [Hid, Nat.pow_succ]; omega
       clear hsc hX hdig hy h8 hn10
       go_wp2_with fail
       go_roundg j
       case measure => omega
       case rel => exact ⟨m + 1, 10 * n + y, d + 1, p, by have := HM.out; omega, by go_num, by go_num, by go_num, HSC.out, by omega, HN.out, by omega, HP.out, G0.out, ⟨_, G1.out, GR.out⟩, BB.out, hsz2⟩
   · by_cases hsep : X = 46 ∨ X = 47
     · have HN0 : Hid (∀ u ∈ p ++ [n], u < 100000000) := fun u hu => by
         rcases List.mem_append.1 hu with h | h
         · exact HP.out u h
         · simp at h; subst h; exact hn8
       rw [scan_end (by omega)] at hsc
       clear hdig hX
       by_cases hd0 : d = 0
       · subst hd0
         have HSC : Hid (scan (s.drop (m + 1)) p 0 0 = scan s [] 0 0) := hsc
         clear hsc
         rcases hsep with rfl | rfl
         · go_wp2_with fail
           go_roundg j
           case measure => omega
           case rel => exact ⟨m + 1, 0, 0, p, by have := HM.out; omega, rfl, rfl, by go_num, HSC.out, by omega, by omega, by omega, HP.out, G0.out, ⟨_, G1.out, GR.out⟩, BB.out, hsz2⟩
         · go_wp2_with fail
           go_roundg j
           case measure => omega
           case rel => exact ⟨m + 1, 0, 0, p, by have := HM.out; omega, rfl, rfl, by go_num, HSC.out, by omega, by omega, by omega, HP.out, G0.out, ⟨_, G1.out, GR.out⟩, BB.out, hsz2⟩
       · have hdp : 0 < d := by omega
         have HSC : Hid (scan (s.drop (m + 1)) (p ++ [n]) 0 0 = scan s [] 0 0) := by rw [if_pos hdp] at hsc; exact hsc
         have hpl2 : p.length + 1 ≤ 110000000 := by omega
         have hbase : w.heap.size + 2 ≤ (wr.alloc (.cells #[.int .i64 (n : Int)] 3)).heap.size := by simp; omega
         clear hsc hd0
         rcases hsep with rfl | rfl
         · go_wp2_with (first
            | (at_builtin; refine wpList_append_num rfl _ _ rfl (w.heap.size + 2) _ p rfl (World.ownsRow.alloc GR.out _) ⟨wr.heap.size, 0, none⟩ n rfl (cell_one_new _ _ _) hpl2 hbase ?_))
           intro v' w1 hown hgrow
           obtain ⟨A', c', rfl⟩ := hown.slice
           obtain ⟨p1, p2⟩ := gath_append G0.out G1.out GR.out BB.out hsz2 hown hgrow
           rw [show (p ++ [n]).length = p.length + 1 by simp] at p2 ⊢
           have d0 : w1.cell? ⟨w.heap.size + 1, 0, none⟩ = some (.slice A p.length c) := p1.cell0
           have e0 := p1.frozen 0
           have P2 := Lib.hid p2
           clear p1 p2 hown hgrow c0 c1 f0 f1 r0 r1 g0 g1
           go_wp2_with fail
           go_roundg j
           case measure => omega
           case rel => exact ⟨m + 1, 0, 0, p ++ [n], by have := HM.out; omega, rfl, rfl, by go_num, HSC.out, by omega, by omega, by simp; omega, HN0.out, P2.out⟩
         · go_wp2_with (first
            | (at_builtin; refine wpList_append_num rfl _ _ rfl (w.heap.size + 2) _ p rfl (World.ownsRow.alloc GR.out _) ⟨wr.heap.size, 0, none⟩ n rfl (cell_one_new _ _ _) hpl2 hbase ?_))
           intro v' w1 hown hgrow
           obtain ⟨A', c', rfl⟩ := hown.slice
           obtain ⟨p1, p2⟩ := gath_append G0.out G1.out GR.out BB.out hsz2 hown hgrow
           rw [show (p ++ [n]).length = p.length + 1 by simp] at p2 ⊢
           have d0 : w1.cell? ⟨w.heap.size + 1, 0, none⟩ = some (.slice A p.length c) := p1.cell0
           have e0 := p1.frozen 0
           have P2 := Lib.hid p2
           clear p1 p2 hown hgrow c0 c1 f0 f1 r0 r1 g0 g1
           go_wp2_with fail
           go_roundg j
           case measure => omega
           case rel => exact ⟨m + 1, 0, 0, p ++ [n], by have := HM.out; omega, rfl, rfl, by go_num, HSC.out, by omega, by omega, by simp; omega, HN0.out, P2.out⟩
     · have n1 : ((X : Int) == 46) = false := by simp; omega
       have n2 : ((X : Int) == 47) = false := by simp; omega
       have HSC : Hid (scan (s.drop (m + 1)) p n d = scan s [] 0 0) := by rw [← hsc, scan_skip (by omega) (by omega) (by omega)]; exact rfl
       have HN := Lib.hid hn10
       clear hsc hX hsep hn10
       by_cases k1 : 48 ≤ X
       · have k2 : ¬ X ≤ 57 := by omega
         clear hdig
         go_wp2_with fail
         go_roundg j
         case measure => omega
         case rel => exact ⟨m + 1, n, d, p, by have := HM.out; omega, rfl, rfl, by go_num, HSC.out, hd, HN.out, by omega, HP.out, G0.out, ⟨_, G1.out, GR.out⟩, BB.out, hsz2⟩
       · clear hdig
         go_wp2_with fail
         go_roundg j
         case measure => omega
         case rel => exact ⟨m + 1, n, d, p, by have := HM.out; omega, rfl, rfl, by go_num, HSC.out, hd, HN.out, by omega, HP.out, G0.out, ⟨_, G1.out, GR.out⟩, BB.out, hsz2⟩
end Go.Proofs.YtgcbfggoddkhnaaGreatDoor
namespace Go.Proofs.YtgcbfggoddkhnaaGreatDoor
open Go.RowKit
theorem cmpN_lt {a b : Nat} (h : a < b) : cmpN a b = -1 := by
 have h1 := tot_cmpN.one a b
 have h2 := (tot_cmpN.eq a b).1
 unfold cmpN Lib.compareInt at *
 split at * <;> simp_all <;> omega
theorem cmpN_gt {a b : Nat} (h : b < a) : cmpN a b = 1 := by
 rw [tot_cmpN.neg b a, cmpN_lt h]
 rfl
def AheadAt (w : World) (v1 v2 : Value) (n k : Nat) (W : World) : Prop :=
 Below w.heap.size w W ∧ W.cell? ⟨w.heap.size, 0, none⟩ = some v1 ∧ W.cell? ⟨w.heap.size, 1, none⟩ = some (.int .i64 (n : Int)) ∧ W.cell? ⟨w.heap.size + 1, 0, none⟩ = some v2 ∧ W.cell? ⟨w.heap.size + 1, 1, none⟩ = some (.int .i64 (k : Int))
theorem AheadAt.drewN {w : World} {v1 v2 : Value} {n k : Nat} {W : World} (h : AheadAt w v1 v2 n k W) (q : Nat) : AheadAt w v1 v2 n k (W.drewN q) := ⟨below_drewN h.1 q, h.2⟩
def AheadRel (w : World) (v1 v2 : Value) (n k : Nat) (p q : List Nat) (j : Nat) (i : Value) (wr : World) : Prop :=
 ∃ m, m + j = p.length ∧ m ≤ q.length ∧ i = .int .i64 (m : Int) ∧ (∀ k x y, k < m → p[k]? = some x → q[k]? = some y → cmpN x y = 0) ∧ AheadAt w v1 v2 n k wr
set_option maxRecDepth 100000 in
set_option maxHeartbeats 2000000 in
theorem ahead_any {w : World} {A1 A2 : Option Addr} {c1 c2 n k : Nat} {p q : List Nat} (h1 : Ints w w.heap.size A1 (ints p)) (h2 : Ints w w.heap.size A2 (ints q)) (hp : p.length ≤ 6) (hq : q.length ≤ 6) :
  Calls Tryz.prog 147 #[.agg #[.slice A1 p.length c1, .int .i64 (n : Int)], .agg #[.slice A2 q.length c2, .int .i64 (k : Int)]] w (RetB w (.bool (decide (cmpP (p, n) (q, k) = -1)))) := by
 have H1 := Lib.hid h1
 have H2 := Lib.hid h2
 obtain ⟨B, hB⟩ : ∃ B, B = decide (cmpP (p, n) (q, k) = -1) := ⟨_, rfl⟩
 rw [← hB]
 have HB : Hid (B = decide ((if lex cmpN p q = 0 then cmpN n k else lex cmpN p q) = -1)) := hB
 clear h1 h2 hB
 go_enter Tryz.func147, Tryz.ntmps147
 go_wp2_with fail
 go_loopg [5] p.length (fun j i wr => AheadRel w (.slice A1 p.length c1) (.slice A2 q.length c2) n k p q j i wr)
 case atStart => exact ⟨0, by simp, by simp, rfl, fun k x y hk => by omega, ((Below.refl _ _).alloc (Nat.le_refl _) _).alloc (by simp) _, by simp, by simp, by simp, by simp⟩
 case round =>
  obtain ⟨m, hmk, hmq, hi, hall, hat⟩ := hrel
  subst hi
  have HL := Lib.hid (lex_drop m p q hall (by omega) hmq)
  have HA := Lib.hid hall
  have HT := Lib.hid hat
  obtain ⟨_, r10, r11, r20, r21⟩ := hat
  clear hall
  by_cases ep : m = p.length
  · subst ep
    rw [List.drop_length] at HL
    by_cases eq : p.length = q.length
    · have HV : Hid (lex cmpN p q = 0) := by
        rw [Hid, ← HL.out, List.drop_eq_nil_of_le (by omega)]
        rfl
      have HW : Hid (B = decide (n < k)) := by
        rw [Hid, HB.out, HV.out, if_pos rfl]
        rcases Nat.lt_trichotomy n k with h | h | h
        · rw [cmpN_lt h]; simp [h]
        · rw [(tot_cmpN.eq n k).2 h]; simp [h]
        · rw [cmpN_gt h]; simp; omega
      go_wp2_with fail
      go_ret
      exact ⟨by rw [HW.out]; rfl, HT.out.1⟩
    · have HW : Hid (B = true) := by
        rw [Hid, HB.out, ← HL.out]
        cases hd : q.drop p.length with
        | nil => rw [List.drop_eq_nil_iff] at hd; omega
        | cons a r => rfl
      have q2 : ((p.length : Int) != (q.length : Int)) = true := by simp; omega
      go_wp2_with fail
      go_ret
      exact ⟨by rw [HW.out]; rfl, HT.out.1⟩
  · have hm : m < p.length := by omega
    obtain ⟨x, hx⟩ : ∃ x, p[m]? = some x := ⟨_, List.getElem?_eq_getElem hm⟩
    have dx : p.drop m = x :: p.drop (m + 1) := by
      obtain ⟨h1, h2⟩ := List.getElem?_eq_some_iff.1 hx
      rw [← h2]
      exact List.drop_eq_getElem_cons h1
    by_cases eq : m = q.length
    · have HW : Hid (B = false) := by
        rw [Hid, HB.out, ← HL.out, dx, show q.drop m = [] from List.drop_eq_nil_of_le (by omega)]
        rfl
      clear hx dx
      have q1 : ((q.length : Int) == (p.length : Int)) = false := by simp; omega
      have q2 : ((p.length : Int) != (q.length : Int)) = true := by simp; omega
      go_wp2_with fail
      go_ret
      exact ⟨by rw [HW.out]; rfl, HT.out.1⟩
    · have hm2 : m < q.length := by omega
      obtain ⟨y, hy⟩ : ∃ y, q[m]? = some y := ⟨_, List.getElem?_eq_getElem hm2⟩
      have dy : q.drop m = y :: q.drop (m + 1) := by
        obtain ⟨h1, h2⟩ := List.getElem?_eq_some_iff.1 hy
        rw [← h2]
        exact List.drop_eq_getElem_cons h1
      obtain ⟨b1, o1, rfl, hlt1, hc1⟩ := H1.out.2 (by rw [ints_length]; omega)
      obtain ⟨b2, o2, rfl, hlt2, hc2⟩ := H2.out.2 (by rw [ints_length]; omega)
      have x1 := (HT.out.1.cell (p := ⟨b1, o1 + m, none⟩) hlt1).trans (hc1 m x (ints_at hx))
      have x2 := (HT.out.1.cell (p := ⟨b2, o2 + m, none⟩) hlt2).trans (hc2 m y (ints_at hy))
      have HM := Lib.hid hmk
      have q1 : ((m : Int) == (p.length : Int)) = false := by simp; omega
      have q2 : ((m : Int) == (q.length : Int)) = false := by simp; omega
      rcases Nat.lt_trichotomy x y with hlt | he | hlt
      · have HW : Hid (B = true) := by
          rw [Hid, HB.out, ← HL.out, dx, dy]
          simp [lex, cmpN_lt hlt]
        clear hx hy dx dy hc1 hc2 hmk
        go_wp2_with fail
        go_quiet (fail)
        go_wp2_with fail
        go_quiet (fail)
        go_wp2_with fail
        go_ret
        exact ⟨by rw [HW.out]; rfl, below_drewN (below_drewN HT.out.1 _) _⟩
      · subst he
        have HA2 : Hid (∀ k a b, k < m + 1 → p[k]? = some a → q[k]? = some b → cmpN a b = 0) := fun k a b hk ha hb => by
          by_cases e : k = m
          · subst e
            rw [hx] at ha
            rw [hy] at hb
            cases ha
            cases hb
            exact tot_cmpN.refl _
          · exact HA.out k a b (by omega) ha hb
        clear hx hy dx dy hc1 hc2 hmk
        go_wp2_with fail
        go_quiet (fail)
        go_wp2_with fail
        go_roundg (p.length - (m + 1))
        case measure => have := HM.out; omega
        case rel => exact ⟨m + 1, by have := HM.out; omega, by omega, by go_num, HA2.out, HT.out.drewN _⟩
      · have HW : Hid (B = decide (x < y)) := by
          rw [Hid, HB.out, ← HL.out, dx, dy]
          simp [lex, cmpN_gt hlt]
          omega
        clear hx hy dx dy hc1 hc2 hmk
        go_wp2_with fail
        go_quiet (fail)
        go_wp2_with fail
        go_quiet (fail)
        go_wp2_with fail
        go_ret
        exact ⟨by rw [HW.out]; rfl, below_drewN (below_drewN HT.out.1 _) _⟩
theorem less_bytes : ∀ a b : List UInt8, Op.bytesLess a b = decide (Lib.compareBytes a b = -1)
 | [], [] => rfl
 | [], _ :: _ => rfl
 | _ :: _, [] => rfl
 | a :: r, b :: s => by
  unfold Op.bytesLess Lib.compareBytes
  rw [less_bytes r s]
  rcases Nat.lt_trichotomy a.toNat b.toNat with h | h | h
  · have h1 : a < b := h
    simp [h1]
  · have h1 : a = b := UInt8.toNat_inj.1 h
    subst h1
    have h2 : ¬ a < a := Nat.lt_irrefl a.toNat
    simp [h2]
  · have h1 : b < a := h
    have h2 : ¬ a < b := fun e => Nat.lt_asymm h e
    have h3 : ¬ a = b := fun e => by subst e; exact Nat.lt_irrefl _ h
    simp [h1, h2, h3]
theorem cmp_of {a b : List UInt8} {z : Int} (hz : z = cmpC a b) : (z = -1 ∧ ¬ a = b) ∨ (z = 0 ∧ a = b) ∨ (z = 1 ∧ ¬ a = b) := by
 have h := (tot_cmpC.eq a b)
 rw [← hz] at h
 rcases tot_cmpC.one a b with h1 | h1 | h1 <;> rw [← hz] at h1
 · exact .inl ⟨h1, fun e => by have := h.2 e; omega⟩
 · exact .inr (.inl ⟨h1, h.1 h1⟩)
 · exact .inr (.inr ⟨h1, fun e => by have := h.2 e; omega⟩)
set_option maxRecDepth 100000 in
set_option maxHeartbeats 2000000 in
theorem refCompare_any {w : World} {a b : List UInt8} (ha : a.length ≤ 1048576) (hb : b.length ≤ 1048576) :
   Calls Tryz.prog 108 #[.string (str a), .string (str b)] w (RetB w (.int .i64 (cmpC a b))) := by
 obtain ⟨z, hz⟩ : ∃ z, z = cmpC a b := ⟨_, rfl⟩
 obtain ⟨S, hS⟩ : ∃ S, S = str a := ⟨_, rfl⟩
 obtain ⟨T, hT⟩ : ∃ T, T = str b := ⟨_, rfl⟩
 obtain ⟨L, hL⟩ : ∃ L, L = Op.bytesLess S.toList T.toList := ⟨_, rfl⟩
 have HA : Hid (∀ W, Calls Tryz.prog 109 #[.string S] W (RetGet W a)) := fun W => by rw [hS]; exact get_any ha
 have HB : Hid (∀ W, Calls Tryz.prog 109 #[.string T] W (RetGet W b)) := fun W => by rw [hT]; exact get_any hb
 have hE : ∀ {c : Bool}, ((a = b) ↔ c = true) → (S.toList == T.toList) = c := fun {c} h => by
   rw [hS, hT]
   cases c with
   | true => exact str_same (h.2 rfl)
   | false => exact str_differs fun e => by have := h.1 e; cases this
 have HE : Hid (∀ {c : Bool}, ((a = b) ↔ c = true) → (S.toList == T.toList) = c) := @hE
 have hLb : L = decide (Lib.compareBytes a b = -1) := by
   rw [hL, hS, hT, ByteArray.toList_eq, ByteArray.toList_eq, str_list, str_list, less_bytes]
 have HL := Lib.hid hLb
 have hLs := hL.symm
 rw [← hz, ← hS, ← hT]
 have HC := Lib.hid (cmp_of hz)
 have HZ := Lib.hid hz
 clear hz hS hT hL hE hLb ha hb
 go_enter Tryz.func108, Tryz.ntmps108
 go_wp2_with fail
 refine (HA.out w).mono ?_
 rintro e w1 ⟨hb1, (⟨p, n, v, hc1, rfl, hrow1⟩ | ⟨hc1, rfl⟩)⟩
 · have C1 := Lib.hid hc1
   have hf1 := (catOf_iff.1 hc1).1
   obtain ⟨A1, cc1, rfl, hI1⟩ := hrow1.ints (fun u hu => by have := hf1.1.2 u hu; omega)
   have B1 := Lib.hid (hb1.alloc hb1.size (.cells #[.slice A1 p.length cc1, .int .i64 (n : Int)] 147))
   have I1 := Lib.hid hI1
   have hl1 : p.length ≤ 6 := hf1.1.1
   clear hb1 hc1 hrow1 hI1 hf1
   go_wp2_with fail
   refine (HB.out _).mono ?_
   rintro e w2 ⟨hb2, (⟨q, k, u, hc2, rfl, hrow2⟩ | ⟨hc2, rfl⟩)⟩
   · have hf2 := (catOf_iff.1 hc2).1
     obtain ⟨A2, cc2, rfl, hI2⟩ := hrow2.ints (fun u hu => by have := hf2.1.2 u hu; omega)
     have hl2 : q.length ≤ 6 := hf2.1.1
     have B2 := Lib.hid (B1.out.trans (hb2.mono B1.out.size))
     have HV : Hid (cmpC a b = cmpP (p, n) (q, k)) := by unfold Hid cmpC; rw [C1.out, hc2]
     have b12 : Below w1.heap.size w1 w2 := ((Below.refl _ _).alloc (Nat.le_refl _) _).trans (hb2.mono (by simp))
     have r0 : w2.cell? ⟨w1.heap.size, 0, none⟩ = some (.slice A1 p.length cc1) := (hb2.cell (p := ⟨w1.heap.size, 0, none⟩) (by simp)).trans (by simp)
     have r1 : w2.cell? ⟨w1.heap.size, 1, none⟩ = some (.int .i64 (n : Int)) := (hb2.cell (p := ⟨w1.heap.size, 1, none⟩) (by simp)).trans (by simp)
     have b23 : Below w2.heap.size w2 (w2.alloc (.cells #[.slice A2 q.length cc2, .int .i64 (k : Int)] 147)) := (Below.refl _ _).alloc (Nat.le_refl _) _
     have H31 := Lib.hid (ahead_any (c1 := cc1) (c2 := cc2) (n := n) (k := k) (((I1.out.below b12).more b12.size |>.below b23).more b23.size) ((hI2.below b23).more b23.size) hl1 hl2)
     have hg2 : w1.heap.size < w2.heap.size := World.block_lt_of_cell? w2 _ r1
     have r0' : (w2.alloc (.cells #[.slice A2 q.length cc2, .int .i64 (k : Int)] 147)).cell? ⟨w1.heap.size, 0, none⟩ = some (.slice A1 p.length cc1) := (b23.cell (p := ⟨w1.heap.size, 0, none⟩) hg2).trans r0
     have r1' : (w2.alloc (.cells #[.slice A2 q.length cc2, .int .i64 (k : Int)] 147)).cell? ⟨w1.heap.size, 1, none⟩ = some (.int .i64 (n : Int)) := (b23.cell (p := ⟨w1.heap.size, 1, none⟩) hg2).trans r1
     have B3 := Lib.hid (B2.out.alloc B2.out.size (.cells #[.slice A2 q.length cc2, .int .i64 (k : Int)] 147))
     obtain ⟨D, hD⟩ : ∃ D, D = decide (cmpP (p, n) (q, k) = -1) := ⟨_, rfl⟩
     rw [← hD] at H31
     have HD : Hid (D = decide (z = -1)) := by rw [Hid, hD, HZ.out, HV.out]
     clear hb2 hc2 hrow2 hI2 hf2 b12 r0 r1 b23 hD HV I1
     go_wp2_with fail
     refine H31.out.mono ?_
     rintro e w4 ⟨rfl, hb4⟩
     have B4 := Lib.hid (B3.out.trans (hb4.mono B3.out.size))
     clear hb4 H31 r0' r1'
     rcases HC.out with ⟨rfl, he⟩ | ⟨rfl, he⟩ | ⟨rfl, he⟩
     · have hD : D = true := HD.out
       subst hD
       go_wp2_with fail
       go_ret
       exact ⟨rfl, B4.out⟩
     · have hD : D = false := HD.out
       subst hD
       have hq := HE.out (c := true) (by simp [he])
       clear he
       go_wp2_with fail
       go_ret
       exact ⟨rfl, B4.out⟩
     · have hD : D = false := HD.out
       subst hD
       have hq := HE.out (c := false) (by simp [he])
       clear he
       go_wp2_with fail
       go_ret
       exact ⟨rfl, B4.out⟩
   · have HV : Hid (z = -1) := by rw [Hid, HZ.out]; unfold cmpC; rw [C1.out, hc2]
     have B2 := Lib.hid (B1.out.trans (hb2.mono B1.out.size))
     have B3 := Lib.hid (B2.out.alloc B2.out.size (.cells #[.slice none 0 0, .int .i64 0] 147))
     clear hb2 hc2
     go_wp2_with fail
     go_ret
     exact ⟨by rw [HV.out]; rfl, B3.out⟩
 · have C1 := Lib.hid hc1
   have B1 := Lib.hid (hb1.alloc hb1.size (.cells #[.slice none 0 0, .int .i64 0] 147))
   clear hb1 hc1
   go_wp2_with fail
   refine (HB.out _).mono ?_
   rintro e w2 ⟨hb2, (⟨q, k, u, hc2, rfl, hrow2⟩ | ⟨hc2, rfl⟩)⟩
   · have HV : Hid (z = 1) := by rw [Hid, HZ.out]; unfold cmpC; rw [C1.out, hc2]
     obtain ⟨A2, cc2, rfl⟩ := hrow2.slice
     have B2 := Lib.hid (B1.out.trans (hb2.mono B1.out.size))
     have B3 := Lib.hid (B2.out.alloc B2.out.size (.cells #[.slice A2 q.length cc2, .int .i64 (k : Int)] 147))
     have hq := HE.out (c := false) (by
       rcases HC.out with ⟨h, _⟩ | ⟨h, _⟩ | ⟨_, h⟩
       · rw [HV.out] at h; omega
       · rw [HV.out] at h; omega
       · simp [h])
     clear hb2 hc2 hrow2
     go_wp2_with fail
     go_ret
     exact ⟨by rw [HV.out]; rfl, B3.out⟩
   · have HV : Hid (z = Lib.compareBytes a b) := by rw [Hid, HZ.out]; unfold cmpC; rw [C1.out, hc2]
     have B2 := Lib.hid (B1.out.trans (hb2.mono B1.out.size))
     have B3 := Lib.hid (B2.out.alloc B2.out.size (.cells #[.slice none 0 0, .int .i64 0] 147))
     have HL2 : Hid (L = decide (z = -1)) := by rw [Hid, HV.out]; exact HL.out
     clear hb2 hc2
     rcases HC.out with ⟨rfl, he⟩ | ⟨rfl, he⟩ | ⟨rfl, he⟩
     · have hD : L = true := HL2.out
       subst hD
       clear he
       go_wp2_with fail
       go_ret
       exact ⟨rfl, B3.out⟩
     · have hD : L = false := HL2.out
       subst hD
       have hq := HE.out (c := true) (by simp [he])
       clear he
       go_wp2_with fail
       go_ret
       exact ⟨rfl, B3.out⟩
     · have hD : L = false := HL2.out
       subst hD
       have hq := HE.out (c := false) (by simp [he])
       clear he
       go_wp2_with fail
       go_ret
       exact ⟨rfl, B3.out⟩
end Go.Proofs.YtgcbfggoddkhnaaGreatDoor
namespace Go.Proofs.YtgcbfggoddkhnaaGreatDoor
open Go.RowKit
def Good (l : List Ent) : Prop := (∀ e ∈ l, entErr e = 0 ∧ e.2 ≠ 1) ∧ Rises cmpC (keys l)
theorem good_zero (l : List Ent) : Good (l.take 0) := ⟨by simp, by simp [keys, Rises]⟩
theorem good_first {l : List Ent} {e : Ent} (h : l[0]? = some e) (h1 : entErr e = 0) (h2 : e.2 ≠ 1) : Good (l.take 1) := by
 cases l with
 | nil => simp at h
 | cons x r =>
  simp at h
  subst h
  exact ⟨by simp; exact ⟨h1, h2⟩, by simp [keys, Rises]⟩
theorem good_next {l : List Ent} {m : Nat} {p e : Ent} (h : Good (l.take (m + 1))) (hp : l[m]? = some p) (he : l[m + 1]? = some e) (h1 : entErr e = 0) (h2 : e.2 ≠ 1) (hc : cmpC p.1 e.1 = -1) : Good (l.take (m + 1 + 1)) := by
 refine ⟨take_no (P := fun e => entErr e = 0 ∧ e.2 ≠ 1) he h.1 ⟨h1, h2⟩, ?_⟩
 have hr := h.2
 rw [List.take_add_one, hp] at hr
 rw [List.take_add_one, he, List.take_add_one, hp]
 simp only [keys, Option.toList_some, List.map_append, List.map_cons, List.map_nil] at hr ⊢
 have h3 := List.pairwise_append.1 hr
 refine List.pairwise_append.2 ⟨hr, List.pairwise_singleton _ _, fun x hx y hy => ?_⟩
 simp at hy
 subst hy
 rcases List.mem_append.1 hx with h4 | h4
 · exact tot_cmpC.lt_trans (h3.2.2 x h4 _ (by simp)) hc
 · simp at h4
   subst h4
   exact hc
theorem bad_entry {l : List Ent} {m : Nat} {e : Ent} (h : l[m]? = some e) (hb : ¬ (entErr e = 0 ∧ e.2 ≠ 1)) : ¬ RightL l := fun hr => hb (hr.2.1 e (List.mem_of_getElem? h))
theorem bad_next {l : List Ent} {m : Nat} {p e : Ent} (hp : l[m]? = some p) (he : l[m + 1]? = some e) (hc : ¬ cmpC p.1 e.1 = -1) : ¬ RightL l := fun hr => by
 have h1 := List.pairwise_iff_getElem.1 hr.2.2 m (m + 1) (by
  have := (List.getElem?_eq_some_iff.1 hp).1
  simpa [keys] using this) (by
  have := (List.getElem?_eq_some_iff.1 he).1
  simpa [keys] using this) (by omega)
 have e1 := (List.getElem?_eq_some_iff.1 hp).2
 have e2 := (List.getElem?_eq_some_iff.1 he).2
 simp only [keys, List.getElem_map, e1, e2] at h1
 exact hc h1
def RightRel (w : World) (l : List Ent) (k : Nat) (i : Value) (wr : World) : Prop :=
 ∃ m, m + k = l.length ∧ i = .int .i64 (m : Int) ∧ Good (l.take m) ∧ Below w.heap.size w wr
set_option maxRecDepth 100000 in
theorem labelRight_any {w : World} {A : Option Addr} {c : Nat} {l : List Ent} (he : Env w) (hl : Ents w w.heap.size A l) (hx : ∀ e ∈ l, e.1.length ≤ 140737488351232) (hn : l.length ≤ maxLen) :
   Calls Tryz.prog 58 #[.slice A l.length c] w (RetB w (.bool (decide (RightL l)))) := by
 have HE := Lib.hid he
 have HL := Lib.hid hl
 have HX := Lib.hid hx
 clear hl hx he
 unfold maxLen at hn
 by_cases h8 : 8 < l.length
 · have HD : Hid (decide (RightL l) = false) := decide_eq_false fun h => by have := h.1; omega
   go_enter Tryz.func58, Tryz.ntmps58
   go_wp2_with fail
   go_ret
   exact ⟨by rw [HD.out]; rfl, Below.refl _ _⟩
 have h8' : l.length ≤ 8 := by omega
 clear h8
 go_enter Tryz.func58, Tryz.ntmps58
 go_wp2_with fail
 go_loopg [10] l.length (fun k i wr => RightRel w l k i wr)
 case atStart => exact ⟨0, by simp, rfl, good_zero l, Below.refl _ _⟩
 case round =>
   obtain ⟨m, hmk, hi, hgd, hb⟩ := hrel
   subst hi
   have HB := Lib.hid hb
   have HG := Lib.hid hgd
   have hsz := hb.size
   cases gk with
   | zero =>
    have hge : l.length ≤ m := by omega
    have HD : Hid (decide (RightL l) = true) := decide_eq_true ⟨h8', by have := HG.out; rwa [List.take_of_length_le hge] at this⟩
    clear hgd hb
    go_wp2_with fail
    go_ret
    exact ⟨by rw [HD.out]; rfl, HB.out⟩
   | succ j =>
    have hm : m < l.length := by omega
    obtain ⟨⟨t, n⟩, hx⟩ : ∃ x, l[m]? = some x := ⟨_, List.getElem?_eq_getElem hm⟩
    obtain ⟨b, o, rfl, hlt, hcells⟩ := (HL.out.below hb) (by omega)
    obtain ⟨c1, c2⟩ := hcells m t n hx
    have hlt2 : b < wr.heap.size := by omega
    have HM := Lib.hid hmk
    have HXM := Lib.hid hx
    have htl : t.length ≤ 140737488351232 := HX.out _ (List.mem_of_getElem? hx)
    have EW := HE.out.on hb
    obtain ⟨W0, hW0⟩ : ∃ W0, W0 = wr.alloc (.cells #[.string (str t), .int .i64 n] 42) := ⟨_, rfl⟩
    have hB0 : Below wr.heap.size wr W0 := by rw [hW0]; exact (Below.refl _ _).alloc (Nat.le_refl _) _
    have H30 := Lib.hid (entryError_any (n := n) (EW.on hB0) htl)
    have HB0 := Lib.hid hB0
    have k0 : W0.cell? ⟨wr.heap.size, 0, none⟩ = some (.string (str t)) := by rw [hW0]; simp
    have k1 : W0.cell? ⟨wr.heap.size, 1, none⟩ = some (.int .i64 n) := by rw [hW0]; simp
    have K0 := Lib.hid k0
    have K1 := Lib.hid k1
    have hs0 : W0.heap.size = wr.heap.size + 1 := by rw [hW0]; simp
    have HS := Lib.hid hs0
    have HEW := Lib.hid EW
    have HW0 := Lib.hid hW0
    have hprev : Hid (∀ k, m = k + 1 → ∃ p q, l[k]? = some (p, q) ∧ wr.cell? ⟨b, o + k * 2, none⟩ = some (.string (str p)) ∧ p.length ≤ 140737488351232) := fun k hk => by
      obtain ⟨⟨p, q⟩, hp⟩ : ∃ x, l[k]? = some x := ⟨_, List.getElem?_eq_getElem (by omega)⟩
      exact ⟨p, q, hp, (hcells k p q hp).1, HX.out _ (List.mem_of_getElem? hp)⟩
    clear hcells hx hmk hgd hB0 k0 k1 EW hW0 hs0
    go_wp2_with fail
    rw [← HW0.out]
    refine H30.out.mono ?_
    rintro e w1 ⟨rfl, hb1⟩
    have hS := HS.out
    have B1 := Lib.hid (HB0.out.trans (hb1.mono HB0.out.size))
    have c3 : w1.cell? ⟨wr.heap.size, 0, none⟩ = some (.string (str t)) := (hb1.cell (p := ⟨wr.heap.size, 0, none⟩) (show wr.heap.size < _ by omega)).trans K0.out
    have c4 : w1.cell? ⟨wr.heap.size, 1, none⟩ = some (.int .i64 n) := (hb1.cell (p := ⟨wr.heap.size, 1, none⟩) (show wr.heap.size < _ by omega)).trans K1.out
    clear hb1
    obtain ⟨z, hz⟩ : ∃ z, z = entErr (t, n) := ⟨_, rfl⟩
    rw [← hz]
    by_cases hz0 : z = 0
    · have HZ : Hid (entErr (t, n) = 0) := hz.symm.trans hz0
      subst hz0
      by_cases h1 : n = 1
      · have HD : Hid (decide (RightL l) = false) := decide_eq_false (bad_entry HXM.out fun h => h.2 h1)
        subst h1
        clear hz c1 c2
        go_wp2_with fail
        go_ret
        exact ⟨by rw [HD.out]; rfl, HB.out.trans (B1.out.mono hsz)⟩
      · have hn1 : ((n : Int) == (1 : Int)) = false := by simpa using h1
        have HN1 := Lib.hid h1
        by_cases hm0 : m = 0
        · subst hm0
          have HG2 := Lib.hid (good_first HXM.out HZ.out HN1.out)
          clear hz c1 c2 hprev h1
          go_wp2_with fail
          go_quiet (fail)
          go_wp2_with fail
          go_roundg j
          case measure => omega
          case rel => exact ⟨1, by have := HM.out; omega, by go_num, HG2.out, below_drewN (HB.out.trans (B1.out.mono hsz)) _⟩
        · obtain ⟨k, hk⟩ : ∃ k, m = k + 1 := ⟨m - 1, by omega⟩
          obtain ⟨p, q, hp, cp, hpl⟩ := hprev.out k hk
          have cp1 : w1.cell? ⟨b, o + k * 2, none⟩ = some (.string (str p)) := (B1.out.cell (p := ⟨b, o + k * 2, none⟩) (show b < _ by omega)).trans cp
          have E1 := HEW.out.on B1.out
          have H40 : Hid (∀ W, Below w1.heap.size w1 W → Calls Tryz.prog 103 #[.string (str p), .string (str t)] W fun e w' => e = .returned (.int .i64 (cmpC p t)) ∧ Below w1.heap.size w1 w') := fun W h =>
            (compare_any (E1.on h) hpl htl).mono fun e w' h2 => ⟨h2.1, h.trans (h2.2.mono h.size)⟩
          have hbw1 : b < w1.heap.size := by have := B1.out.size; omega
          have hgw1 : wr.heap.size < w1.heap.size := World.block_lt_of_cell? w1 _ c3
          have HPM := Lib.hid hp
          have HK := Lib.hid hk
          obtain ⟨y, hy⟩ : ∃ y, y = cmpC p t := ⟨_, rfl⟩
          rw [← hy] at H40
          have HY := Lib.hid hy
          have hk1 : IntKind.i64.wrap ((m : Int) - 1) = (k : Int) := by rw [IntKind.wrap_i64]; omega
          have hk2 : ¬ ((k : Int) < 0) := by omega
          have hk3 : (k : Int) < (l.length : Int) := by omega
          have hk4 : k < l.length := by omega
          have hm1 : (m : Int) > 0 := by omega
          have hm2 : 0 < m := by omega
          clear hz c1 c2 hprev h1 hy E1 hp cp hk hm0
          go_wp2_with fail
          go_region_held3 (fun W => W.cell? ⟨b, o + k * 2, none⟩ = some (.string (str p)) ∧ W.cell? ⟨wr.heap.size, 0, none⟩ = some (.string (str t)))
            (first
             | go_keep
             | exact ⟨(hbA.cell (p := ⟨b, o + k * 2, none⟩) hbw1).trans cp1, (hbA.cell (p := ⟨wr.heap.size, 0, none⟩) hgw1).trans c3⟩)
            (first
             | (go_at_call 103; refine (H40.out _ (Below.refl _ _).drew).mono ?_; rintro e W1 ⟨rfl, hbA⟩))
          have B2 := Lib.hid (HB.out.trans ((B1.out.trans (hbA.mono (by have := B1.out.size; omega))).mono hsz))
          clear hbA cp1 c3 c4
          by_cases hy1 : y = -1
          · have HG2 : Hid (Good (l.take (m + 1))) := by
             have hg := HG.out
             have hx := HXM.out
             rw [HK.out] at hg hx ⊢
             exact good_next hg HPM.out hx HZ.out HN1.out (HY.out.symm.trans hy1)
            subst hy1
            clear hk1 hk2 hk3 hk4
            go_wp2_with fail
            go_roundg j
            case measure => omega
            case rel => exact ⟨m + 1, by have := HM.out; omega, by go_num, HG2.out, B2.out⟩
          · have HD : Hid (decide (RightL l) = false) := decide_eq_false (by
             have hx := HXM.out
             rw [HK.out] at hx
             exact bad_next HPM.out hx fun h => hy1 (HY.out.trans h))
            have hyc := cmp_of HY.out
            have hyg : y ≥ 0 := by omega
            clear hk1 hk2 hk3 hk4 hyc hy1
            go_wp2_with fail
            go_ret
            exact ⟨by rw [HD.out]; rfl, B2.out⟩
    · have HD : Hid (decide (RightL l) = false) := decide_eq_false (bad_entry HXM.out fun h => hz0 (hz.trans h.1))
      have hz1 : ((z : Int) == (0 : Int)) = false := by simpa using hz0
      clear hz c1 c2
      go_wp2_with fail
      go_ret
      exact ⟨by rw [HD.out]; rfl, HB.out.trans (B1.out.mono hsz)⟩
end Go.Proofs.YtgcbfggoddkhnaaGreatDoor
namespace Go.Proofs.YtgcbfggoddkhnaaGreatDoor
open Go.RowKit
structure Lab (w : World) (A : Option Addr) (c : Nat) (l : List Ent) : Prop where
 ents : Ents w w.heap.size A l
 nil : A = none → c = 0
 txt : ∀ e ∈ l, e.1.length ≤ 140737488351232
 len : l.length ≤ maxLen
theorem Lab.on {w w' : World} {A : Option Addr} {c : Nat} {l : List Ent} (h : Lab w A c l) (hb : Below w.heap.size w w') : Lab w' A c l :=
 ⟨(h.ents.below hb).more hb.size, h.nil, h.txt, h.len⟩
def FlRel (w : World) (a b L : List Ent) (k : Nat) (i : Value) (wr : World) : Prop :=
 ∃ m, m + k = L.length ∧ i = .int .i64 (m : Int) ∧ (∀ e ∈ L.take m, lev a e.1 ≤ lev b e.1) ∧ Below w.heap.size w wr
set_option maxRecDepth 100000 in
set_option maxHeartbeats 1000000 in
theorem flows_any {w : World} {A B : Option Addr} {c d : Nat} {a b : List Ent} (he : Env w) (ha : Lab w A c a) (hb : Lab w B d b) :
   Calls Tryz.prog 116 #[.slice A a.length c, .slice B b.length d] w (RetB w (.bool (decide (FlowsL a b)))) := by
 have HE := Lib.hid he
 have HA := Lib.hid ha
 have HB := Lib.hid hb
 have H14a := Lib.hid (labelRight_any (c := c) he ha.ents ha.txt ha.len)
 clear he ha hb
 by_cases hra : RightL a
 · rw [decide_eq_true hra] at H14a
   have RA := Lib.hid hra
   clear hra
   go_enter Tryz.func116, Tryz.ntmps116
   go_wp2_with fail
   refine H14a.out.mono ?_
   rintro e w1 ⟨rfl, hb1⟩
   have B1 := Lib.hid hb1
   have E1 := Lib.hid (HE.out.on hb1)
   have A1 := Lib.hid (HA.out.on hb1)
   have C1 := Lib.hid (HB.out.on hb1)
   have H14b := Lib.hid (labelRight_any (c := d) E1.out C1.out.ents C1.out.txt C1.out.len)
   clear hb1 H14a
   by_cases hrb : RightL b
   · rw [decide_eq_true hrb] at H14b
     have RB := Lib.hid hrb
     clear hrb
     go_wp2_with fail
     refine H14b.out.mono ?_
     rintro e w2 ⟨rfl, hb2⟩
     have B2 := Lib.hid (B1.out.trans (hb2.mono B1.out.size))
     have E2 := Lib.hid (E1.out.on hb2)
     have hn8 : a.length + b.length ≤ 16 := by have h1 := RA.out.1; have h2 := RB.out.1; omega
     have hal : Below w2.heap.size w2 (w2.alloc (.cells #[.slice A a.length c, .slice B b.length d] 23)) := (Below.refl _ _).alloc (Nat.le_refl _) _
     have A2 := Lib.hid (A1.out.on hb2)
     have C2 := Lib.hid (C1.out.on hb2)
     have H36 := Lib.hid (concat_any (w := w2.alloc (.cells #[.slice A a.length c, .slice B b.length d] 23)) (b := w2.heap.size) (o := 0) (by simp) (by simp) (by simp) (A2.out.on hal).ents (C2.out.on hal).ents A2.out.nil C2.out.nil (by omega))
     have HAL := Lib.hid hal
     clear hb2 H14b hal
     go_wp2_with fail
     refine H36.out.mono ?_
     rintro e w3 ⟨v, rfl, hrow, hb3⟩
     obtain ⟨L, hL⟩ : ∃ L, L = a ++ b := ⟨_, rfl⟩
     rw [← hL] at hrow
     have HLL := Lib.hid hL
     obtain ⟨A', c', rfl, _, hents⟩ := hrow.ents
     have hll : L.length ≤ 16 := by rw [hL, List.length_append]; exact hn8
     have B3 : Hid (Below w2.heap.size w2 w3) := HAL.out.trans (hb3.mono HAL.out.size)
     have HN := Lib.hid hents
     have E3 := Lib.hid (E2.out.on B3.out)
     have A3 := Lib.hid (A2.out.on B3.out)
     have C3 := Lib.hid (C2.out.on B3.out)
     clear hb3 hrow hents H36 hL
     go_wp2_with fail
     go_loopg [20] L.length (fun k i wr => FlRel w3 a b L k i wr)
     case atStart => exact ⟨0, by simp, rfl, by simp, Below.refl _ _⟩
     case round =>
      obtain ⟨m, hmk, hi, hno, hb⟩ := hrel
      subst hi
      have HW := Lib.hid hb
      have HNO := Lib.hid hno
      have hsz := hb.size
      cases gk with
      | zero =>
       have hge : L.length ≤ m := by omega
       have HD : Hid (decide (FlowsL a b) = true) := decide_eq_true ⟨RA.out, RB.out, by
         have := HNO.out
         rwa [List.take_of_length_le hge, HLL.out] at this⟩
       clear hno hb
       go_wp2_with fail
       go_ret
       exact ⟨by rw [HD.out]; rfl, B2.out.trans ((B3.out.trans (HW.out.mono B3.out.size)).mono B2.out.size)⟩
      | succ j =>
       have hm : m < L.length := by omega
       obtain ⟨⟨t, n⟩, hx⟩ : ∃ x, L[m]? = some x := ⟨_, List.getElem?_eq_getElem hm⟩
       obtain ⟨g, o, rfl, hlt, hcells⟩ := (HN.out.below hb) (by omega)
       obtain ⟨c1, c2⟩ := hcells m t n hx
       have HM := Lib.hid hmk
       have HX := Lib.hid hx
       obtain ⟨W0, hW0⟩ : ∃ W0, W0 = wr.alloc (.cells #[.string (str t), .int .i64 n] 42) := ⟨_, rfl⟩
       have hB0 : Below wr.heap.size wr W0 := by rw [hW0]; exact (Below.refl _ _).alloc (Nat.le_refl _) _
       have k0 : W0.cell? ⟨wr.heap.size, 0, none⟩ = some (.string (str t)) := by rw [hW0]; simp
       have hg0 : wr.heap.size < W0.heap.size := by rw [hW0]; simp
       have hB03 : Below w3.heap.size w3 W0 := HW.out.trans (hB0.mono hsz)
       have A4 := A3.out.on hB03
       have C4 := C3.out.on hB03
       obtain ⟨ya, hya⟩ : ∃ y, y = lev a t := ⟨_, rfl⟩
       obtain ⟨yb, hyb⟩ : ∃ y, y = lev b t := ⟨_, rfl⟩
       have H15a : Hid (∀ W, Below W0.heap.size W0 W → Calls Tryz.prog 156 #[.slice A a.length c, .string (str t)] W fun e w' => e = .returned (.int .i64 ya) ∧ Below W0.heap.size W0 w') := fun W h => by
         rw [hya]
         exact (level_any (A4.on h).ents (by omega)).mono fun e w' h2 => ⟨h2.1, h.trans (h2.2.mono h.size)⟩
       have H15b : Hid (∀ W, Below W0.heap.size W0 W → Calls Tryz.prog 156 #[.slice B b.length d, .string (str t)] W fun e w' => e = .returned (.int .i64 yb) ∧ Below W0.heap.size W0 w') := fun W h => by
         rw [hyb]
         exact (level_any (C4.on h).ents (by omega)).mono fun e w' h2 => ⟨h2.1, h.trans (h2.2.mono h.size)⟩
       have HYA := Lib.hid hya
       have HYB := Lib.hid hyb
       have HB03 := Lib.hid hB03
       have HW0 := Lib.hid hW0
       clear hcells hx hmk hno hb hB0 hB03 A4 C4 hya hyb hW0
       go_wp2_with fail
       rw [← HW0.out]
       go_region_held3 (fun W => W.cell? ⟨wr.heap.size, 0, none⟩ = some (.string (str t)))
         (first
          | go_keep
          | exact (hbB.cell (p := ⟨wr.heap.size, 0, none⟩) hg0).trans k0
          | exact (hbA.cell (p := ⟨wr.heap.size, 0, none⟩) hg0).trans k0)
         (first
          | (go_at_call 156; refine (H15b.out _ hbA).mono ?_; rintro e W2 ⟨rfl, hbB⟩)
          | (go_at_call 156; refine (H15a.out _ (Below.refl _ _).drew).mono ?_; rintro e W1 ⟨rfl, hbA⟩))
       have B4 : Hid (Below w3.heap.size w3 W2) := HB03.out.trans (hbB.mono HB03.out.size)
       clear hbA hbB k0 c1 c2 H15a H15b
       by_cases hgt : ya > yb
       · have HD : Hid (decide (FlowsL a b) = false) := decide_eq_false fun h => by
          have h1 := h.2.2 (t, n) (by rw [← HLL.out]; exact List.mem_of_getElem? HX.out)
          rw [← HYA.out, ← HYB.out] at h1
          omega
         go_wp2_with fail
         go_ret
         exact ⟨by rw [HD.out]; rfl, B2.out.trans ((B3.out.trans (B4.out.mono B3.out.size)).mono B2.out.size)⟩
       · have HN2 : Hid (∀ e ∈ L.take (m + 1), lev a e.1 ≤ lev b e.1) := take_no (P := fun e => lev a e.1 ≤ lev b e.1) HX.out HNO.out (by
          show lev a t ≤ lev b t
          rw [← HYA.out, ← HYB.out]
          omega)
         go_wp2_with fail
         go_roundg j
         case measure => omega
         case rel => exact ⟨m + 1, by have := HM.out; omega, by go_num, HN2.out, B4.out⟩
   · rw [decide_eq_false hrb] at H14b
     have HD : Hid (decide (FlowsL a b) = false) := decide_eq_false fun h => hrb h.2.1
     clear hrb
     go_wp2_with fail
     refine H14b.out.mono ?_
     rintro e w2 ⟨rfl, hb2⟩
     have B2 := Lib.hid (B1.out.trans (hb2.mono B1.out.size))
     clear hb2 H14b
     go_wp2_with fail
     go_ret
     exact ⟨by rw [HD.out]; rfl, B2.out⟩
 · rw [decide_eq_false hra] at H14a
   have HD : Hid (decide (FlowsL a b) = false) := decide_eq_false fun h => hra h.1
   clear hra
   go_enter Tryz.func116, Tryz.ntmps116
   go_wp2_with fail
   refine H14a.out.mono ?_
   rintro e w1 ⟨rfl, hb1⟩
   have B1 := Lib.hid hb1
   clear hb1 H14a
   go_wp2_with fail
   go_ret
   exact ⟨by rw [HD.out]; rfl, B1.out⟩
end Go.Proofs.YtgcbfggoddkhnaaGreatDoor
namespace Go.Proofs.YtgcbfggoddkhnaaGreatDoor
open Go.RowKit
def OwnL (l : List (List UInt8)) : Prop := l.length ≤ 8 ∧ Rises cmpC l ∧ ∀ x ∈ l, (catOf x).isSome = true
instance (l : List (List UInt8)) : Decidable (OwnL l) := by unfold OwnL Rises; infer_instance
theorem own_nil : OwnL [] := ⟨by simp, List.Pairwise.nil, by simp⟩
theorem own_sort {l R : List (List UInt8)} (h8 : l.length ≤ 8) (hr : Rises cmpC R) (hm : ∀ x, x ∈ R ↔ x ∈ l ∧ (catOf x).isSome = true) : decide (l = R) = decide (OwnL l) := by
 refine decide_eq_decide.2 ⟨fun h => ?_, fun h => ?_⟩
 · refine ⟨h8, by rw [h]; exact hr, fun x hx => ?_⟩
   rw [h] at hx
   exact ((hm x).1 hx).2
 · refine rises_unique tot_cmpC h.2.1 hr fun x => ⟨fun hx => (hm x).2 ⟨hx, h.2.2 x hx⟩, fun hx => ((hm x).1 hx).1⟩
def UnionOut (a b R : List (List UInt8)) (e : Int) : Prop :=
 (¬ (OwnL a ∧ OwnL b) ∧ R = [] ∧ e = 2) ∨ (OwnL a ∧ OwnL b ∧ ∃ U, Rises cmpC U ∧ (∀ x, x ∈ U ↔ x ∈ a ∨ x ∈ b) ∧ ((8 < U.length ∧ R = [] ∧ e = 34) ∨ (U.length ≤ 8 ∧ R = U ∧ e = 0)))
theorem UnionOut.ok {a b R : List (List UInt8)} (h : UnionOut a b R 0) : OwnL a ∧ OwnL b ∧ OwnL R ∧ ∀ x, x ∈ R ↔ x ∈ a ∨ x ∈ b := by
 rcases h with ⟨_, _, h⟩ | ⟨ha, hb, U, hU, hm, ⟨_, _, h⟩ | ⟨h8, rfl, _⟩⟩
 · cases h
 · cases h
 · exact ⟨ha, hb, ⟨h8, hU, fun x hx => ((hm x).1 hx).elim (ha.2.2 x) (hb.2.2 x)⟩, hm⟩
theorem UnionOut.bad {a b R : List (List UInt8)} {e : Int} (h : UnionOut a b R e) (he : e ≠ 0) : R = [] := by
 rcases h with ⟨_, h, _⟩ | ⟨_, _, _, _, _, ⟨_, h, _⟩ | ⟨_, _, h⟩⟩
 · exact h
 · exact h
 · exact absurd h he
theorem UnionOut.len {a b R : List (List UInt8)} {e : Int} (h : UnionOut a b R e) : OwnL R := by
 by_cases he : e = 0
 · subst he; exact h.ok.2.2.1
 · rw [h.bad he]; exact own_nil
def AddOut (l : List (List UInt8)) (c : List UInt8) (R : List (List UInt8)) (e : Int) : Prop :=
 (¬ OwnL l ∧ R = [] ∧ e = 2) ∨ (OwnL l ∧ (catOf c).isSome = false ∧ R = [] ∧ e = 20) ∨ (OwnL l ∧ (catOf c).isSome = true ∧ UnionOut l [c] R e)
theorem AddOut.ok {l R : List (List UInt8)} {c : List UInt8} (h : AddOut l c R 0) : OwnL l ∧ (catOf c).isSome = true ∧ OwnL R ∧ ∀ x, x ∈ R ↔ x ∈ l ∨ x = c := by
 rcases h with ⟨_, _, h⟩ | ⟨_, _, _, h⟩ | ⟨h1, h2, h3⟩
 · cases h
 · cases h
 · obtain ⟨_, _, g1, g2⟩ := h3.ok
   exact ⟨h1, h2, g1, fun x => by simpa using g2 x⟩
theorem AddOut.len {l R : List (List UInt8)} {c : List UInt8} {e : Int} (h : AddOut l c R e) : OwnL R := by
 rcases h with ⟨_, rfl, _⟩ | ⟨_, _, rfl, _⟩ | ⟨h1, h2, h3⟩
 · exact own_nil
 · exact own_nil
 · exact h3.len
def dropC (l : List (List UInt8)) (c : List UInt8) : List (List UInt8) := l.filter fun x => !decide (x = c)
theorem mem_dropC {l : List (List UInt8)} {c x : List UInt8} : x ∈ dropC l c ↔ x ∈ l ∧ ¬ x = c := by simp [dropC]
theorem own_drop {l : List (List UInt8)} (c : List UInt8) (h : OwnL l) : OwnL (dropC l c) :=
 ⟨Nat.le_trans (List.length_filter_le _ _) h.1, h.2.1.filter _, fun x hx => h.2.2 x (mem_dropC.1 hx).1⟩
def DropOut (l : List (List UInt8)) (c : List UInt8) (R : List (List UInt8)) (e : Int) : Prop :=
 (¬ OwnL l ∧ R = [] ∧ e = 2) ∨ (OwnL l ∧ (catOf c).isSome = false ∧ R = [] ∧ e = 20) ∨ (OwnL l ∧ (catOf c).isSome = true ∧ c ∉ l ∧ R = [] ∧ e = 36) ∨ (OwnL l ∧ (catOf c).isSome = true ∧ c ∈ l ∧ R = dropC l c ∧ e = 0)
theorem DropOut.len {l R : List (List UInt8)} {c : List UInt8} {e : Int} (h : DropOut l c R e) : OwnL R := by
 rcases h with ⟨h1, rfl, rfl⟩ | ⟨h1, h2, rfl, rfl⟩ | ⟨h1, h2, h3, rfl, rfl⟩ | ⟨h1, h2, h3, rfl, rfl⟩
 · exact own_nil
 · exact own_nil
 · exact own_nil
 · exact own_drop c h1
def WithinL (a b : List (List UInt8)) : Prop := OwnL a ∧ OwnL b ∧ ∀ x ∈ a, x ∈ b
instance (a b : List (List UInt8)) : Decidable (WithinL a b) := by unfold WithinL; infer_instance
def FlowsO (a b : List Ent) (l : List (List UInt8)) : Prop := RightL a ∧ RightL b ∧ OwnL l ∧ ∀ e ∈ a ++ b, e.1 ∈ l ∨ lev a e.1 ≤ lev b e.1
instance (a b : List Ent) (l : List (List UInt8)) : Decidable (FlowsO a b l) := by unfold FlowsO; infer_instance
def AltersO (a b : List Ent) (l : List (List UInt8)) : Prop := FlowsO a b l ∧ FlowsO b a l
instance (a b : List Ent) (l : List (List UInt8)) : Decidable (AltersO a b l) := by unfold AltersO; infer_instance
theorem FlowsO.more {a b : List Ent} {l u : List (List UInt8)} (h : FlowsO a b l) (hu : OwnL u) (hs : ∀ x ∈ l, x ∈ u) : FlowsO a b u :=
 ⟨h.1, h.2.1, hu, fun e he => (h.2.2.2 e he).imp (hs _) id⟩
theorem take_all {α : Type} {P : α → Prop} {l : List α} {m : Nat} {x : α} (h : l[m]? = some x) (ha : ∀ y ∈ l.take m, P y) (hx : P x) : ∀ y ∈ l.take (m + 1), P y := fun y hy => by
 rw [List.take_add_one, h] at hy
 rcases List.mem_append.1 hy with h1 | h1
 · exact ha y h1
 · simp at h1
   rw [h1]; exact hx
end Go.Proofs.YtgcbfggoddkhnaaGreatDoor
namespace Go.Proofs.YtgcbfggoddkhnaaGreatDoor
open Go.RowKit
structure SL (w : World) (A : Option Addr) (c : Nat) (l : List (List UInt8)) : Prop where
 strs : Strs w w.heap.size A l
 nil : A = none → c = 0
 txt : ∀ x ∈ l, x.length ≤ 140737488351232
 len : l.length ≤ 100000000
theorem SL.on {w w' : World} {A : Option Addr} {c : Nat} {l : List (List UInt8)} (h : SL w A c l) (hb : Below w.heap.size w w') : SL w' A c l :=
 ⟨(h.strs.below hb).more hb.size, h.nil, h.txt, h.len⟩
theorem Strs.none {w : World} {B : Nat} {l : List (List UInt8)} (h : Strs w B none l) : l = [] := by
 cases l with
 | nil => rfl
 | cons x r => obtain ⟨b, o, hA, _⟩ := h (by simp); cases hA
def EqSRel (w : World) (l l' : List (List UInt8)) (k : Nat) (i : Value) (wr : World) : Prop :=
 ∃ m, m + k = l.length ∧ i = .int .i64 (m : Int) ∧ l.take m = l'.take m ∧ Below w.heap.size w wr
set_option maxRecDepth 100000 in
theorem equalS_any {w : World} {A A' : Option Addr} {c c' : Nat} {l l' : List (List UInt8)} (h : Strs w w.heap.size A l) (h' : Strs w w.heap.size A' l') (hn : l.length ≤ 100000000) :
   Calls Tryz.prog 104 #[.slice A l.length c, .slice A' l'.length c'] w (RetB w (.bool (decide (l = l')))) := by
 have HL := Lib.hid h
 have HL' := Lib.hid h'
 clear h h'
 by_cases hlen : l.length = l'.length
 · rw [← hlen]
   have HLEN := Lib.hid hlen
   clear hlen
   go_enter Tryz.func104, Tryz.ntmps104
   go_wp2_with fail
   go_loopg [13] l.length (fun k i wr => EqSRel w l l' k i wr)
   case atStart => exact ⟨0, by simp, rfl, by simp, Below.refl _ _⟩
   case round =>
    obtain ⟨m, hmk, hi, htk, hb⟩ := hrel
    subst hi
    have HB := Lib.hid hb
    have HT := Lib.hid htk
    cases gk with
    | zero =>
     have hge : l.length ≤ m := by omega
     have HD : Hid (decide (l = l') = true) := decide_eq_true (by
       have h1 := HT.out
       have h2 := HLEN.out
       rwa [List.take_of_length_le hge, List.take_of_length_le (by omega)] at h1)
     clear htk hb
     go_wp2_with fail
     go_ret
     exact ⟨by rw [HD.out] <;> rfl, HB.out⟩
    | succ j =>
     have hm : m < l.length := by omega
     have hm' : m < l'.length := by have := HLEN.out; omega
     obtain ⟨t, hx⟩ : ∃ x, l[m]? = some x := ⟨_, List.getElem?_eq_getElem hm⟩
     obtain ⟨t', hx'⟩ : ∃ x, l'[m]? = some x := ⟨_, List.getElem?_eq_getElem hm'⟩
     obtain ⟨b, o, rfl, hlt, hcells⟩ := (HL.out.below hb) (by omega)
     obtain ⟨b', o', rfl, hlt', hcells'⟩ := (HL'.out.below hb) (by omega)
     have c1 := hcells m t hx
     have c3 := hcells' m t' hx'
     have HM := Lib.hid hmk
     have HX := Lib.hid hx
     have HX' := Lib.hid hx'
     by_cases he : t = t'
     · have hq := str_same he
       have HN : Hid (l.take (m + 1) = l'.take (m + 1)) := by
        unfold Hid
        rw [List.take_add_one, List.take_add_one, HT.out, HX.out, HX'.out, he]
       clear hcells hcells' hx hx' hmk htk hb he hm'
       go_wp2_with fail
       go_region
       go_wp2_with fail
       go_roundg j
       case measure => omega
       case rel => exact ⟨m + 1, by have := HM.out; omega, by go_num, HN.out, HB.out.drew⟩
     · have hq := str_differs he
       have HD : Hid (decide (l = l') = false) := decide_eq_false fun e => by
        have h1 := HX.out
        rw [e, HX'.out] at h1
        injection h1 with h1
        exact he h1.symm
       clear hcells hcells' hx hx' hmk htk hb he hm'
       go_wp2_with fail
       go_region
       go_wp2_with fail
       go_ret
       exact ⟨by rw [HD.out] <;> rfl, HB.out.drew⟩
 · have HD : Hid (decide (l = l') = false) := decide_eq_false fun e => hlen (by rw [e])
   have hne : ((l.length : Int) == (l'.length : Int)) = false := by simpa using (fun h => hlen (by omega))
   clear hlen
   go_enter Tryz.func104, Tryz.ntmps104
   go_wp2_with fail
   go_ret
   exact ⟨by rw [HD.out] <;> rfl, Below.refl _ _⟩
end Go.Proofs.YtgcbfggoddkhnaaGreatDoor
