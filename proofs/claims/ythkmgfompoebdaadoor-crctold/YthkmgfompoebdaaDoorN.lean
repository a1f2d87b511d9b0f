/- CrcTold answers true at every slice of bytes and every two numbers, wherever the table lies as the text lays it; only new memory is written. -/
import Derived.Test.YthkmgfompoebdaaDoorM
import Derived.RegionCalls
import Derived.IntWalk
import Derived.StillTailTactics
namespace Go.Proofs.YthkmgfompoebdaaDoor
open Go.RowKit

theorem told_big {w : World} {A : Option Addr} {n c a0 a1 : Nat} (ht : TabIn w) (hn : 500 < n) (hm : n ≤ maxLen) :
    Calls Tryd.prog 5 #[.slice A n c, .agg #[.int .u16 (a0 : Int), .int .u16 (a1 : Int)]] w (Fine w) := by
  have hb0 : Below w.heap.size w (w.alloc (.cells #[.int .u16 (a0 : Int), .int .u16 (a1 : Int)] 40)) := (Below.refl _ _).alloc (Nat.le_refl _) _
  have F := Lib.hid (first_true (ht.below ht.1 hb0))
  have B0 := Lib.hid hb0
  clear ht hb0
  unfold maxLen at hm
  go_enter Tryd.func5, Tryd.ntmps5
  go_wp2_with (go_at_call 6; refine F.out.mono ?_; rintro e w' ⟨rfl, hb⟩)
  go_ret
  exact ⟨rfl, B0.out.trans (hb.mono B0.out.size)⟩

/-- One bit of a row of its own, inverted: what the walk is told, and the row behind the store. -/
theorem turn_laid {w : World} {base g cap i n : Nat} {s : List Nat} (h : w.ownsRow base 5 1 (.slice (some ⟨g, 0, none⟩) n cap) n (cellsOf s)) (hs : Sml s) (hn : n ≤ 1000) (hi : i < 8 * n) :
    ∃ k t x y z : Nat, k < n ∧ t < 8 ∧ w.cell? ⟨g, k, none⟩ = some (.int .u8 (x : Int)) ∧ w.frozen? ⟨g, k, none⟩ = false ∧
      IntKind.i64.wrap ((i : Int) / 8) = (k : Int) ∧ (i : Int).tmod 8 = (t : Int) ∧ IntKind.u8.wrap (2 ^ t) = (y : Int) ∧ bits .xor .u8 (x : Int) (y : Int) = (z : Int) ∧
      (w.setCell ⟨g, k, none⟩ (.int .u8 (z : Int))).ownsRow base 5 1 (.slice (some ⟨g, 0, none⟩) n cap) n (cellsOf (flip s i)) := by
  have hl : s.length = n := by have := h.1; rw [cellsOf_length] at this; omega
  have hk : i / 8 < s.length := by omega
  have hx : s[i / 8]? = some s[i / 8] := List.getElem?_eq_getElem hk
  have hx8 := hs.at hx
  have hy := two_pow_lt i
  refine ⟨i / 8, i % 8, s[i / 8], 2 ^ (i % 8), s[i / 8] ^^^ 2 ^ (i % 8), by omega, by omega, ?_, h.frozenAt _, ?_, rfl, ?_, u8_xor_nat _ _ hx8 hy, ?_⟩
  · have := h.cellAt (g := g) (i / 8) (by omega)
    rwa [cellsOf_at hx] at this
  · exact IntWalk.i64_in _ (by omega)
  · have e : ((2 : Int) ^ (i % 8)) = ((2 ^ (i % 8) : Nat) : Int) := by simp
    rw [e]
    generalize 2 ^ (i % 8) = y at hy
    exact IntWalk.u8_in _ (by omega)
  · have := h.stored (g := g) (i / 8) (.int .u8 ((s[i / 8] ^^^ 2 ^ (i % 8) : Nat) : Int))
    have e : (cellsOf s).set (i / 8) (.int .u8 ((s[i / 8] ^^^ 2 ^ (i % 8) : Nat) : Int)) = cellsOf (flip s i) := by
      unfold flip cellsOf
      rw [List.map_set, List.getD_eq_getElem?_getD, hx, Option.getD_some]
    rw [e] at this
    exact this.1

theorem own_stays {w w' : World} {base n : Nat} {v : Value} {xs : List Value} (h : w.ownsRow base 5 1 v n xs) (hb : Below w.heap.size w w') : w'.ownsRow base 5 1 v n xs :=
  h.kept (row := Option.none) ⟨hb.os, hb.tape, hb.output, hb.size, fun i hi _ => hb.block i hi⟩ (by cases v.ownBlock <;> simp)

theorem own_bts {w : World} {base g cap n : Nat} {s : List Nat} (h : w.ownsRow base 5 1 (.slice (some ⟨g, 0, none⟩) n cap) n (cellsOf s)) : Bts w w.heap.size (some ⟨g, 0, none⟩) s := by
  have hl : n = s.length := by have := h.1; rw [cellsOf_length] at this; omega
  obtain ⟨A, c, hv, hb⟩ := bts_of_own h hl
  injection hv with h1
  subst h1
  exact hb

theorem open_row_no {w : World} {base g cap n : Nat} {p q : List Nat} (ht : TabIn w) (h : w.ownsRow base 5 1 (.slice (some ⟨g, 0, none⟩) (n + 4) cap) (n + 4) (cellsOf (p ++ q))) (hs : Sml (p ++ q)) (hp : p.length = n) (hq : q.length = 4)
    (hn : n ≤ 10000) (hc : n + 4 ≤ cap) (hne : crc p ≠ num q) : Calls Tryd.prog 13 #[.slice (some ⟨g, 0, none⟩) (n + 4) cap] w (OpenNo w) := by
  subst hp
  exact open_no ht (own_bts h) hs hq hn hc hne

theorem ne_of_synd {p q : List Nat} (h : synd p q ≠ 0) : crc p ≠ num q := fun e => h (by rw [synd, e, Nat.xor_self])
theorem synd_sealed (l : List Nat) : synd l (be4 (crc l)) = 0 := by rw [synd, num_be4 (crc_lt l), Nat.xor_self]

theorem open_one {w : World} {base g cap i : Nat} {l : List Nat} (ht : TabIn w) (h : w.ownsRow base 5 1 (.slice (some ⟨g, 0, none⟩) (l.length + 4) cap) (l.length + 4) (cellsOf (flip (sealed l) i))) (hs : Sml l) (hn : l.length ≤ 500) (hc : l.length + 4 ≤ cap) (hi : i < 8 * (l.length + 4)) :
    Calls Tryd.prog 13 #[.slice (some ⟨g, 0, none⟩) (l.length + 4) cap] w (OpenNo w) := by
  obtain ⟨p', q', hf, hp, hq, hd⟩ := synd_flip hs (be4_sml (crc_lt l)) rfl hi
  have hss : Sml (flip (sealed l) i) := flip_sml (sealed_sml hs) i
  rw [sealed, hf] at h hss
  refine open_row_no ht h hss hp hq (by omega) hc (ne_of_synd ?_)
  rw [hd, synd_sealed, Nat.zero_xor]
  exact dlt_ne _ _

theorem open_two {w : World} {base g cap i j : Nat} {l : List Nat} (ht : TabIn w) (h : w.ownsRow base 5 1 (.slice (some ⟨g, 0, none⟩) (l.length + 4) cap) (l.length + 4) (cellsOf (flip (flip (sealed l) i) j))) (hs : Sml l) (hn : l.length ≤ 500) (hc : l.length + 4 ≤ cap)
    (hi : i < 8 * (l.length + 4)) (hj : j < 8 * (l.length + 4)) (hij : ¬ i = j) : Calls Tryd.prog 13 #[.slice (some ⟨g, 0, none⟩) (l.length + 4) cap] w (OpenNo w) := by
  obtain ⟨p1, q1, hf1, hp1, hq1, hd1⟩ := synd_flip hs (be4_sml (crc_lt l)) rfl hi
  have hs1 : Sml (flip (sealed l) i) := flip_sml (sealed_sml hs) i
  have hs2 : Sml (flip (flip (sealed l) i) j) := flip_sml hs1 j
  rw [sealed, hf1] at h hs1 hs2
  obtain ⟨p2, q2, hf2, hp2, hq2, hd2⟩ := synd_flip (p := p1) (q := q1) (fun x hx => hs1 x (by simp [hx])) (fun x hx => hs1 x (by simp [hx])) hq1 (i := j) (by rw [hp1]; exact hj)
  rw [hf2] at h hs2
  refine open_row_no ht h hs2 (hp2.trans hp1) hq2 (by omega) hc (ne_of_synd ?_)
  rw [hd2, hd1, synd_sealed, Nat.zero_xor, hp1]
  intro e
  exact hij (dlt_inj hn hi hj (eq_of_xor e))

theorem open_same {w : World} {base g cap i : Nat} {l : List Nat} (ht : TabIn w) (h : w.ownsRow base 5 1 (.slice (some ⟨g, 0, none⟩) (l.length + 4) cap) (l.length + 4) (cellsOf (flip (flip (sealed l) i) i))) (hs : Sml l) (hn : l.length ≤ 500) (hc : l.length + 4 ≤ cap)
    (hi : i < 8 * (l.length + 4)) : Calls Tryd.prog 13 #[.slice (some ⟨g, 0, none⟩) (l.length + 4) cap] w (OpenYes w l) := by
  rw [flip_twice (by simp [sealed, be4]; omega)] at h
  exact open_yes (q := be4 (crc l)) ht (own_bts h) (sealed_sml hs) rfl (by omega) hc (num_be4 (crc_lt l)).symm

set_option maxRecDepth 100000 in
theorem told_few {w : World} {A : Option Addr} {c a0 a1 : Nat} {l : List Nat} (ht : TabIn w) (hl : Bts w w.heap.size A l) (hs : Sml l) (hn : l.length ≤ 500) (hA : A = none → c = 0) (h0 : a0 < 65536) (h1 : a1 < 65536) :
    Calls Tryd.prog 5 #[.slice A l.length c, .agg #[.int .u16 (a0 : Int), .int .u16 (a1 : Int)]] w (Fine w) := by
  have hb0 : Below w.heap.size w (w.alloc (.cells #[.int .u16 (a0 : Int), .int .u16 (a1 : Int)] 40)) := (Below.refl _ _).alloc (Nat.le_refl _) _
  have F := Lib.hid (first_true (ht.below ht.1 hb0))
  have B0 := Lib.hid hb0
  have HT := Lib.hid ht
  have HL := Lib.hid hl
  have HS := Lib.hid hs
  have HA := Lib.hid hA
  have hd : decide ((500 : Int) < (l.length : Int)) = false := by simp; omega
  clear ht hl hs hA hb0
  go_enter Tryd.func5, Tryd.ntmps5
  go_wp2_with fail
  refine F.out.mono ?_
  rintro e w1 ⟨rfl, hb1⟩
  have x0 := hb1.cell (p := ⟨w.heap.size, 0, none⟩) (by simp)
  have x1 := hb1.cell (p := ⟨w.heap.size, 1, none⟩) (by simp)
  simp at x0 x1
  have B1 := Lib.hid (B0.out.trans (hb1.mono B0.out.size))
  have hw1 : w.heap.size < w1.heap.size := by have := hb1.size; simp at this; omega
  clear hb1 F
  go_wp2_with fail
  refine (seal_any (HT.out.below HT.out.1 B1.out) ((HL.out.below B1.out).more B1.out.size) HA.out HS.out (by omega)).mono ?_
  rintro e w2 ⟨v, rfl, hown, hb2⟩
  obtain ⟨g, cap, rfl, hcap, hgb, hgl, hbt⟩ := own_open hown (by simp [sealed, be4])
  have hsl : (sealed l).length = l.length + 4 := by simp [sealed, be4]
  rw [hsl] at hown hcap ⊢
  have y0 := (hb2.cell (p := ⟨w.heap.size, 0, none⟩) hw1).trans x0
  have y1 := (hb2.cell (p := ⟨w.heap.size, 1, none⟩) hw1).trans x1
  have B2 := Lib.hid (B1.out.trans (hb2.mono B1.out.size))
  have HO := Lib.hid hown
  have hgw : w.heap.size < g := by omega
  clear hown hb2 hbt hsl x0 x1 B0
  go_wp2_with fail
  go_quiet (fail)
  go_wp2_with fail
  have e0 : (a0 : Int) % (8 * ((l.length : Int) + 4)) = ((a0 % (8 * (l.length + 4)) : Nat) : Int) := by simp
  have e1 : (a1 : Int) % (8 * ((l.length : Int) + 4)) = ((a1 % (8 * (l.length + 4)) : Nat) : Int) := by simp
  have hi : a0 % (8 * (l.length + 4)) < 8 * (l.length + 4) := Nat.mod_lt _ (by omega)
  have hj : a1 % (8 * (l.length + 4)) < 8 * (l.length + 4) := Nat.mod_lt _ (by omega)
  rw [e0, e1]
  clear e0 e1
  generalize a0 % (8 * (l.length + 4)) = i at hi ⊢
  generalize a1 % (8 * (l.length + 4)) = j at hj ⊢
  clear y0 y1
  have HO3 : Hid ((w2.drewN nq).ownsRow w1.heap.size 5 1 (.slice (some ⟨g, 0, none⟩) (l.length + 4) cap) (l.length + 4) (cellsOf (sealed l))) := HO.out
  have B3 := Lib.hid (below_drewN B2.out nq)
  have hgl3 : g < (w2.drewN nq).heap.size := hgl
  clear HO B2 hgl
  generalize w2.drewN nq = w3 at HO3 B3 hgl3 ⊢
  obtain ⟨k, t, x, y, z, hk, ht8, cx, fx, fq, fm, fs, fz, hup⟩ := turn_laid HO3.out (sealed_sml HS.out) (by omega) hi
  have hcap' : ((l.length : Int) + 4) ≤ (cap : Int) := by omega
  have hk0 : (0 : Int) ≤ (k : Int) := by omega
  have hk2 : (k : Int) < (l.length : Int) + 4 := by omega
  have HU := Lib.hid hup
  clear hup
  go_still_tail 10, (by kernel_rfl)
  change wpList _ _ _ _ _ w3.drew
  go_wp2_with fail
  have hb4 : Below w.heap.size w (w3.setCell ⟨g, k, none⟩ (.int .u8 (z : Int))).drew := (B3.out.setCell (p := ⟨g, k, none⟩) (Nat.le_of_lt hgw) _).drew
  have HO4 : Hid ((w3.setCell ⟨g, k, none⟩ (.int .u8 (z : Int))).drew.ownsRow w1.heap.size 5 1 (.slice (some ⟨g, 0, none⟩) (l.length + 4) cap) (l.length + 4) (cellsOf (flip (sealed l) i))) := HU.out
  have B4 := Lib.hid hb4
  clear HU HO3 B3 hb4 cx fx fq fm fs fz hk ht8 hk0 hk2 hgl3
  generalize (w3.setCell ⟨g, k, none⟩ (.int .u8 (z : Int))).drew = w4 at HO4 B4 ⊢
  refine (open_one (HT.out.below HT.out.1 B4.out) HO4.out HS.out (by omega) hcap hi).mono ?_
  rintro e w5 ⟨rfl, hb5⟩
  have HO5 := Lib.hid (own_stays HO4.out hb5)
  have B5 := Lib.hid (B4.out.trans (hb5.mono B4.out.size))
  clear hb5 HO4 B4
  go_wp2_with fail
  obtain ⟨k, t, x, y, z, hk, ht8, cx, fx, fq, fm, fs, fz, hup⟩ := turn_laid HO5.out (flip_sml (sealed_sml HS.out) i) (by omega) hj
  have hk0 : (0 : Int) ≤ (k : Int) := by omega
  have hk2 : (k : Int) < (l.length : Int) + 4 := by omega
  have HU := Lib.hid hup
  clear hup
  go_still_tail 10, (by kernel_rfl)
  change wpList _ _ _ _ _ w5.drew
  go_wp2_with fail
  have hb6 : Below w.heap.size w (w5.setCell ⟨g, k, none⟩ (.int .u8 (z : Int))).drew := (B5.out.setCell (p := ⟨g, k, none⟩) (Nat.le_of_lt hgw) _).drew
  have HO6 : Hid ((w5.setCell ⟨g, k, none⟩ (.int .u8 (z : Int))).drew.ownsRow w1.heap.size 5 1 (.slice (some ⟨g, 0, none⟩) (l.length + 4) cap) (l.length + 4) (cellsOf (flip (flip (sealed l) i) j))) := HU.out
  have B6 := Lib.hid hb6
  clear HU HO5 B5 hb6 cx fx fq fm fs fz hk ht8 hk0 hk2
  generalize (w5.setCell ⟨g, k, none⟩ (.int .u8 (z : Int))).drew = w6 at HO6 B6 ⊢
  by_cases hij : i = j
  · subst hij
    refine (open_same (HT.out.below HT.out.1 B6.out) HO6.out HS.out (by omega) hcap hi).mono ?_
    rintro e w7 ⟨A7, c7, rfl, hb7, hbl⟩
    have q1 := conv_str hb7 c7
    have q2 := conv_str (HL.out.below (B6.out.trans (hbl.mono B6.out.size))) c
    have B7 := Lib.hid (B6.out.trans (hbl.mono B6.out.size))
    obtain ⟨s7, hs7⟩ : ∃ s7, s7 = str l := ⟨_, rfl⟩
    rw [← hs7] at q1 q2
    clear hs7 hb7 hbl HO6 B6
    go_wp2_with fail
    go_ret
    exact ⟨rfl, B7.out⟩
  · refine (open_two (HT.out.below HT.out.1 B6.out) HO6.out HS.out (by omega) hcap hi hj hij).mono ?_
    rintro e w7 ⟨rfl, hbl⟩
    have B7 := Lib.hid (B6.out.trans (hbl.mono B6.out.size))
    have hij' : ((i : Int) == (j : Int)) = false := by simp; omega
    clear hbl HO6 B6
    go_wp2_with fail
    go_ret
    exact ⟨rfl, B7.out⟩
end Go.Proofs.YthkmgfompoebdaaDoor
