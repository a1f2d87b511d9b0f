/- OwnsMore, walked. -/
import Derived.Test.YtglidfmgechneaaGreatDoorFi
import Derived.Test.YtglidfmgechneaaGreatDoorLo
import Derived.Test.YtglidfmgechneaaGreatDoorGt
import Derived.Test.YtglidfmgechneaaGreatDoorRg
namespace Go.Proofs.YtglidfmgechneaaGreatDoor
open Go.RowKit

theorem sl_of {w : World} {A : Option Addr} {c : Nat} {l : List (List UInt8)} (h : Strs w w.heap.size A l) (h0 : A = none → c = 0) (hs : ShortS l) : SL w A c l :=
  ⟨h, h0, fun x hx => Nat.le_trans (hs.2 x hx) (by omega), Nat.le_trans hs.1 (by omega)⟩
/-- A pen, just made. -/
theorem pen_made (w : World) : PenB (w.alloc (.cells #[.slice none 0 0] 35)) w.heap.size w.heap.size [] :=
  ⟨none, ⟨.slice none 0 0, by simp, by simp, rfl, World.ownsRow_nil _ _ _ _, by simp⟩, Nat.le_refl _, fun j h => by cases h⟩
theorem Strs.on {w w' : World} {A : Option Addr} {l : List (List UInt8)} (h : Strs w w.heap.size A l) (hb : Below w.heap.size w w') : Strs w' w'.heap.size A l := (h.below hb).more hb.size

set_option maxRecDepth 100000 in
set_option maxHeartbeats 4000000 in
theorem ownsMore_any {w : World} {A B L M : Option Addr} {c d cl cm : Nat} {a b : List Ent} {l more : List (List UInt8)} (he : Env w) (ha : Lab w A c a) (hb : Lab w B d b)
    (hl : Strs w w.heap.size L l) (hL : L = none → cl = 0) (hxl : ∀ x ∈ l, x.length ≤ maxLen) (hnl : l.length ≤ maxLen) (hm : Strs w w.heap.size M more) (hM : M = none → cm = 0) (hxm : ∀ x ∈ more, x.length ≤ maxLen) (hnm : more.length ≤ maxLen) :
    Calls Tryz.prog 5 #[.agg #[.slice A a.length c, .slice B b.length d], .slice L l.length cl, .slice M more.length cm] w (Fine w) := by
  have hbox : Below w.heap.size w (w.alloc (.cells #[.slice A a.length c, .slice B b.length d] 45)) := (Below.refl _ _).alloc (Nat.le_refl _) _
  have H7 := Lib.hid (first_any (he.on hbox))
  have HBOX := Lib.hid hbox
  have k0 : (w.alloc (.cells #[.slice A a.length c, .slice B b.length d] 45)).cell? ⟨w.heap.size, 0, none⟩ = some (.slice A a.length c) := by simp
  have k1 : (w.alloc (.cells #[.slice A a.length c, .slice B b.length d] 45)).cell? ⟨w.heap.size, 1, none⟩ = some (.slice B b.length d) := by simp
  have hg : w.heap.size < (w.alloc (.cells #[.slice A a.length c, .slice B b.length d] 45)).heap.size := by simp
  have K0 := Lib.hid k0
  have K1 := Lib.hid k1
  have HG := Lib.hid hg
  have HE := Lib.hid he
  have HA := Lib.hid ha
  have HB := Lib.hid hb
  have HL := Lib.hid hl
  have HM := Lib.hid hm
  have HXL := Lib.hid hxl
  have HXM := Lib.hid hxm
  have hna := ha.len
  have hnb := hb.len
  clear he ha hb hl hm hxl hxm hbox k0 k1 hg
  go_enter Tryz.func5, Tryz.ntmps5
  go_wp2_with fail
  refine H7.out.mono ?_
  rintro e w1 ⟨rfl, hb1⟩
  have c0 : w1.cell? ⟨w.heap.size, 0, none⟩ = some (.slice A a.length c) := (hb1.cell (p := ⟨w.heap.size, 0, none⟩) HG.out).trans K0.out
  have c1 : w1.cell? ⟨w.heap.size, 1, none⟩ = some (.slice B b.length d) := (hb1.cell (p := ⟨w.heap.size, 1, none⟩) HG.out).trans K1.out
  have hB1 : Below w.heap.size w w1 := HBOX.out.trans (hb1.mono HBOX.out.size)
  have hB1d : Below w.heap.size w w1.drew := hB1.drew
  have B1 := Lib.hid hB1d
  have E1 := Lib.hid (HE.out.on hB1d)
  have A1 := Lib.hid (HA.out.on hB1d)
  have C1 := Lib.hid (HB.out.on hB1d)
  have L1 := Lib.hid (HL.out.on hB1d)
  have M1 := Lib.hid (HM.out.on hB1d)
  have H8 := Lib.hid (long_any (c := cl) L1.out HXL.out hnl)
  have H8b := Lib.hid (long_any (c := cm) M1.out HXM.out hnm)
  unfold maxLen at hna hnb
  clear hb1 hB1 hB1d H7
  go_wp2_with fail
  go_region
  clear c0 c1
  obtain ⟨w2, hw2⟩ : ∃ w2, w2 = w1.drew := ⟨_, rfl⟩
  rw [← hw2] at B1 E1 A1 C1 L1 M1 H8 H8b ⊢
  clear hw2
  by_cases hsa : ¬ ShortS l
  · rw [decide_eq_true hsa] at H8
    clear hsa
    go_wp2_with fail
    refine H8.out.mono ?_
    rintro e w' ⟨rfl, rfl⟩
    go_wp2_with fail
    go_ret
    exact ⟨rfl, B1.out⟩
  replace hsa := Decidable.not_not.1 hsa
  rw [decide_eq_false (fun h => h hsa)] at H8
  go_wp2_with fail
  refine H8.out.mono ?_
  rintro e w' ⟨rfl, rfl⟩
  by_cases hsb : ¬ ShortS more
  · rw [decide_eq_true hsb] at H8b
    clear hsb
    go_wp2_with fail
    refine H8b.out.mono ?_
    rintro e w' ⟨rfl, rfl⟩
    go_wp2_with fail
    go_ret
    exact ⟨rfl, B1.out⟩
  replace hsb := Decidable.not_not.1 hsb
  rw [decide_eq_false (fun h => h hsb)] at H8b
  go_wp2_with fail
  refine H8b.out.mono ?_
  rintro e w' ⟨rfl, rfl⟩
  by_cases h30 : 30 < a.length
  · have hgt : (a.length : Int) > 30 := by omega
    go_wp2_with fail
    go_ret
    exact ⟨rfl, B1.out⟩
  have hga : ¬ (a.length : Int) > 30 := by omega
  by_cases h31 : 30 < b.length
  · have hgt : (b.length : Int) > 30 := by omega
    go_wp2_with fail
    go_ret
    exact ⟨rfl, B1.out⟩
  have hgb : ¬ (b.length : Int) > 30 := by omega
  have SL1 := Lib.hid (sl_of L1.out hL hsa)
  have SM1 := Lib.hid (sl_of M1.out hM hsb)
  have H13 := Lib.hid (union_any E1.out SL1.out SM1.out)
  clear hsa hsb hL hM h30 h31 H8 H8b
  go_wp2_with fail
  refine H13.out.mono ?_
  rintro e w3 ⟨hb3, U, cu, u, z, hq3, rfl, hsl3⟩
  have B3 : Hid (Below w.heap.size w w3) := B1.out.trans (hb3.mono B1.out.size)
  by_cases hz : ¬ z = 0
  · have hz1 : ((z : Int) == (0 : Int)) = false := by simpa using hz
    clear hb3 hq3 hsl3 H13 hz
    go_wp2_with fail
    go_ret
    exact ⟨rfl, B3.out⟩
  replace hz := Decidable.not_not.1 hz
  subst hz
  obtain ⟨hol, _, hou, hmu⟩ := hq3.ok
  have E4 := Lib.hid (E1.out.on hb3)
  have A4 := Lib.hid (A1.out.on hb3)
  have C4 := Lib.hid (C1.out.on hb3)
  have L4 := Lib.hid (SL1.out.on hb3)
  have U4 := Lib.hid hsl3
  have OU := Lib.hid hou
  have HWI : Hid (decide (WithinL l u) = true) := decide_eq_true ⟨hol, hou, fun x hx => (hmu x).2 (.inl hx)⟩
  have HSUB : Hid (∀ x ∈ l, x ∈ u) := fun x hx => (hmu x).2 (.inl hx)
  have hu8 := hou.1
  have SU : Hid (∀ x ∈ u, x.length ≤ 3000) := fun x hx => Nat.le_trans (own_len80 hou x hx) (by omega)
  have HLL : Hid ((ownBytes u).length ≤ 900000) := by
    have h1 := Tp.enc_nine (n := u.length) (by omega)
    have h2 := flatC_len u SU.out
    unfold Hid ownBytes
    rw [List.length_append]
    omega
  obtain ⟨N, hN⟩ : ∃ N, N = w3.heap.size := ⟨_, rfl⟩
  have h8N : 8 ≤ N := by rw [hN]; exact E4.out.1
  obtain ⟨W5, hW5⟩ : ∃ W5, W5 = w3.alloc (.cells #[.slice none 0 0] 35) := ⟨_, rfl⟩
  have hb5 : Below N w3 W5 := by rw [hW5, hN]; exact (Below.refl _ _).alloc (Nat.le_refl _) _
  have hs5 : N ≤ W5.heap.size := by rw [hN]; exact hb5.size
  have hp5 : PenB W5 N N [] := by rw [hW5, hN]; exact pen_made w3
  have hA4 : Strs w3 N U u := by rw [hN]; exact U4.out.strs
  have H15 := Lib.hid (put_any (c := cu) hp5 hs5 (hA4.below hb5) (by omega) SU.out)
  have HW5 := Lib.hid hW5
  have HN := Lib.hid hN
  have B5 := Lib.hid hb5
  clear hW5 hN hb5 hs5 hp5 hA4 hb3 hq3 hsl3 hol hou hmu H13
  go_wp2_with fail
  rw [← HW5.out, ← HN.out]
  refine H15.out.mono ?_
  rintro e w6 ⟨rfl, hp6, hb6⟩
  have B6 := Lib.hid (B5.out.trans hb6)
  obtain ⟨k6, hp6, _, _⟩ := hp6
  have H23 := Lib.hid (Tp.pen_bytes hp6 HLL.out)
  clear hp6 hb6 H15
  go_wp2_with fail
  refine H23.out.mono ?_
  rintro e w7 ⟨A7, c7, rfl, h7, _, h7n, _, _, hb7⟩
  have B7 : Hid (Below N w3 w7) := B6.out.trans (hb7.mono (by have := B6.out.size; have := HN.out; omega))
  have H31 := Lib.hid (Tp.tape_new (c := c7) h7 h7n HLL.out)
  clear h7 h7n hb7 H23
  go_wp2_with fail
  refine H31.out.mono ?_
  rintro e w8 ⟨g8, k8, rfl, ht8, hg8, _, hb8'⟩
  have hN7 : N ≤ w7.heap.size := by have := B7.out.size; have := HN.out; omega
  have B8 : Hid (Below N w3 w8) := B7.out.trans (hb8'.mono hN7)
  have E8 := Lib.hid (E4.out.below B8.out h8N)
  have H30 := Lib.hid (get_own E8.out h8N ht8 (Nat.le_trans hN7 hg8) OU.out)
  clear ht8 hg8 hb8' H31
  go_wp2_with fail
  refine H30.out.mono ?_
  rintro e w9 ⟨hb9, G, cg, rfl, hlg⟩
  have B9n : Hid (Below N w3 w9) := B8.out.trans hb9
  have B9w : Below w3.heap.size w3 w9 := by rw [← HN.out]; exact B9n.out
  have E9 := Lib.hid (E4.out.on B9w)
  have LA := Lib.hid (A4.out.on B9w)
  have LB := Lib.hid (C4.out.on B9w)
  have LL := Lib.hid (L4.out.on B9w)
  have LU := Lib.hid (U4.out.on B9w)
  have LG := Lib.hid hlg
  have B9 : Hid (Below w.heap.size w w9) := B3.out.trans (B9w.mono B3.out.size)
  clear hb9 hlg B9w B9n B8 B7 B6 B5 H30 HW5 HN E8 E4 A4 C4 L4 U4 SU HLL
  have h0 := Below.refl w9.heap.size w9
  have S22 : Hid (∀ W, Below w9.heap.size w9 W → Calls Tryz.prog 22 #[.slice G u.length cg, .slice U u.length cu] W fun e w' => e = .returned (.bool true) ∧ Below w9.heap.size w9 w') := fun W h => by
    have h1 := (refSameO_any (c := cg) (c' := cu) (LG.out.on h).strs (LU.out.on h).strs (by omega)).mono fun e w' (h2 : RetB W _ e w') => (⟨h2.1, h.trans (h2.2.mono h.size)⟩ : e = .returned (.bool (decide (u = u))) ∧ Below w9.heap.size w9 w')
    rwa [decide_eq_true rfl] at h1
  have S20 : Hid (∀ W, Below w9.heap.size w9 W → Calls Tryz.prog 20 #[.slice L l.length cl, .slice U u.length cu] W fun e w' => e = .returned (.bool true) ∧ Below w9.heap.size w9 w') := fun W h => by
    have h1 := (within_any (E9.out.on h) (LL.out.on h) (LU.out.on h)).mono fun e w' (h2 : RetB W _ e w') => (⟨h2.1, h.trans (h2.2.mono h.size)⟩ : e = .returned (.bool (decide (WithinL l u))) ∧ Below w9.heap.size w9 w')
    rwa [HWI.out] at h1
  obtain ⟨p, hp⟩ : ∃ p, p = decide (FlowsO a b l) := ⟨_, rfl⟩
  obtain ⟨p', hp'⟩ : ∃ p', p' = decide (FlowsO a b u) := ⟨_, rfl⟩
  obtain ⟨q, hq⟩ : ∃ q, q = decide (AltersO a b l) := ⟨_, rfl⟩
  obtain ⟨q', hq'⟩ : ∃ q', q' = decide (AltersO a b u) := ⟨_, rfl⟩
  obtain ⟨r, hr⟩ : ∃ r, r = decide (FlowsL a b) := ⟨_, rfl⟩
  have HPP : Hid (p = true → p' = true) := fun h => by
    rw [hp] at h
    rw [hp']
    exact decide_eq_true ((of_decide_eq_true h).more OU.out HSUB.out)
  have HQQ : Hid (q = true → q' = true) := fun h => by
    rw [hq] at h
    rw [hq']
    have h1 := of_decide_eq_true h
    exact decide_eq_true ⟨h1.1.more OU.out HSUB.out, h1.2.more OU.out HSUB.out⟩
  have Fl : Hid (∀ W, Below w9.heap.size w9 W → Calls Tryz.prog 27 #[.slice A a.length c, .slice B b.length d, .slice L l.length cl] W fun e w' => e = .returned (.bool p) ∧ Below w9.heap.size w9 w') := fun W h => by
    rw [hp]
    exact (sees_any (E9.out.on h) (LA.out.on h) (LB.out.on h) (LL.out.on h)).mono fun e w' h2 => ⟨h2.1, h.trans (h2.2.mono h.size)⟩
  have Fu : Hid (∀ W, Below w9.heap.size w9 W → Calls Tryz.prog 27 #[.slice A a.length c, .slice B b.length d, .slice U u.length cu] W fun e w' => e = .returned (.bool p') ∧ Below w9.heap.size w9 w') := fun W h => by
    rw [hp']
    exact (sees_any (E9.out.on h) (LA.out.on h) (LB.out.on h) (LU.out.on h)).mono fun e w' h2 => ⟨h2.1, h.trans (h2.2.mono h.size)⟩
  have Al : Hid (∀ W, Below w9.heap.size w9 W → Calls Tryz.prog 28 #[.slice A a.length c, .slice B b.length d, .slice L l.length cl] W fun e w' => e = .returned (.bool q) ∧ Below w9.heap.size w9 w') := fun W h => by
    rw [hq]
    exact (alters_any (E9.out.on h) (LA.out.on h) (LB.out.on h) (LL.out.on h)).mono fun e w' h2 => ⟨h2.1, h.trans (h2.2.mono h.size)⟩
  have Au : Hid (∀ W, Below w9.heap.size w9 W → Calls Tryz.prog 28 #[.slice A a.length c, .slice B b.length d, .slice U u.length cu] W fun e w' => e = .returned (.bool q') ∧ Below w9.heap.size w9 w') := fun W h => by
    rw [hq']
    exact (alters_any (E9.out.on h) (LA.out.on h) (LB.out.on h) (LU.out.on h)).mono fun e w' h2 => ⟨h2.1, h.trans (h2.2.mono h.size)⟩
  have Fn : Hid (∀ W, Below w9.heap.size w9 W → Calls Tryz.prog 27 #[.slice A a.length c, .slice B b.length d, .slice none 0 0] W fun e w' => e = .returned (.bool r) ∧ Below w9.heap.size w9 w') := fun W h => by
    rw [hr, ← flowsO_nil]
    exact (sees_any (E9.out.on h) (LA.out.on h) (LB.out.on h) (sl_nil W)).mono fun e w' h2 => ⟨h2.1, h.trans (h2.2.mono h.size)⟩
  have F32 : Hid (∀ W, Below w9.heap.size w9 W → Calls Tryz.prog 32 #[.slice A a.length c, .slice B b.length d] W fun e w' => e = .returned (.bool r) ∧ Below w9.heap.size w9 w') := fun W h => by
    rw [hr]
    exact (flows_any (E9.out.on h) (LA.out.on h) (LB.out.on h)).mono fun e w' h2 => ⟨h2.1, h.trans (h2.2.mono h.size)⟩
  have hrr : (r == r) = true := by simp
  clear hp hp' hq hq' hr
  go_wp2_with fail
  refine (S22.out _ h0).mono ?_
  rintro e x1 ⟨rfl, g1⟩
  go_wp2_with fail
  refine (S20.out _ g1).mono ?_
  rintro e x2 ⟨rfl, g2⟩
  clear g1 h0
  cases hpv : p with
  | false =>
    rw [hpv] at Fl
    go_wp2_with fail
    refine (Fl.out _ g2).mono ?_
    rintro e x3 ⟨rfl, g3⟩
    cases hqv : q with
    | false =>
      rw [hqv] at Al
      go_wp2_with fail
      refine (Al.out _ g3).mono ?_
      rintro e x4 ⟨rfl, g4⟩
      go_wp2_with fail
      refine (Fn.out _ g4).mono ?_
      rintro e y1 ⟨rfl, j1⟩
      go_wp2_with fail
      refine (F32.out _ j1).mono ?_
      rintro e y2 ⟨rfl, j2⟩
      have BF : Hid (Below w.heap.size w y2) := B9.out.trans (j2.mono B9.out.size)
      clear j1 j2
      go_wp2_with fail
      go_ret
      exact ⟨rfl, BF.out⟩
    | true =>
      have hq1 := HQQ.out hqv
      rw [hqv] at Al
      rw [hq1] at Au
      go_wp2_with fail
      refine (Al.out _ g3).mono ?_
      rintro e x4 ⟨rfl, g4⟩
      go_wp2_with fail
      refine (Au.out _ g4).mono ?_
      rintro e x5 ⟨rfl, g5⟩
      go_wp2_with fail
      refine (Fn.out _ g5).mono ?_
      rintro e y1 ⟨rfl, j1⟩
      go_wp2_with fail
      refine (F32.out _ j1).mono ?_
      rintro e y2 ⟨rfl, j2⟩
      have BF : Hid (Below w.heap.size w y2) := B9.out.trans (j2.mono B9.out.size)
      clear j1 j2
      go_wp2_with fail
      go_ret
      exact ⟨rfl, BF.out⟩
  | true =>
    have hp1 := HPP.out hpv
    rw [hpv] at Fl
    rw [hp1] at Fu
    go_wp2_with fail
    refine (Fl.out _ g2).mono ?_
    rintro e x3 ⟨rfl, g3⟩
    go_wp2_with fail
    refine (Fu.out _ g3).mono ?_
    rintro e x4 ⟨rfl, g4⟩
    cases hqv : q with
    | false =>
      rw [hqv] at Al
      go_wp2_with fail
      refine (Al.out _ g4).mono ?_
      rintro e x5 ⟨rfl, g5⟩
      go_wp2_with fail
      refine (Fn.out _ g5).mono ?_
      rintro e y1 ⟨rfl, j1⟩
      go_wp2_with fail
      refine (F32.out _ j1).mono ?_
      rintro e y2 ⟨rfl, j2⟩
      have BF : Hid (Below w.heap.size w y2) := B9.out.trans (j2.mono B9.out.size)
      clear j1 j2
      go_wp2_with fail
      go_ret
      exact ⟨rfl, BF.out⟩
    | true =>
      have hq1 := HQQ.out hqv
      rw [hqv] at Al
      rw [hq1] at Au
      go_wp2_with fail
      refine (Al.out _ g4).mono ?_
      rintro e x5 ⟨rfl, g5⟩
      go_wp2_with fail
      refine (Au.out _ g5).mono ?_
      rintro e x6 ⟨rfl, g6⟩
      go_wp2_with fail
      refine (Fn.out _ g6).mono ?_
      rintro e y1 ⟨rfl, j1⟩
      go_wp2_with fail
      refine (F32.out _ j1).mono ?_
      rintro e y2 ⟨rfl, j2⟩
      have BF : Hid (Below w.heap.size w y2) := B9.out.trans (j2.mono B9.out.size)
      clear j1 j2
      go_wp2_with fail
      go_ret
      exact ⟨rfl, BF.out⟩
end Go.Proofs.YtglidfmgechneaaGreatDoor
