/- LabelSets, walked. -/
import Derived.Test.YtpokdihnimlgkaaGreatDoorFi
import Derived.Test.YtpokdihnimlgkaaGreatDoorLo
namespace Go.Proofs.YtpokdihnimlgkaaGreatDoor
open Go.RowKit

/-- What With made without an error. -/
theorem WithOut.ok {l m : List Ent} {s : List UInt8} {n : Int} (h : WithOut l s n m 0) : RightL l ∧ RightL m ∧ ∀ c, lev m c = if s = c then n else lev l c := by
  rcases h with ⟨_, _, h⟩ | ⟨hr, h⟩
  · cases h
  · obtain ⟨h1, h2, h3⟩ := h.ok
    have hf : last (l ++ [(s, n)]) = fun c => if s = c then n else lev l c := by
      funext c
      rw [last_snoc, hr.lastLev]
    rw [hf] at h2
    have hs := entErr_zero.1 (firstErr_zero.1 h1 (s, n) (by simp))
    refine ⟨hr, RightL.of_labs h2 h3 fun c hc => ?_, fun c => by rw [h2.lev]⟩
    by_cases e : s = c
    · subst e
      rw [if_pos rfl]
      exact hs
    · rw [if_neg e] at hc ⊢
      have hk : c ∈ keys l := by
        by_cases hk : c ∈ keys l
        · exact hk
        · exact absurd (lev_out hk) hc
      exact ⟨hr.cat hk, hr.level c⟩
theorem WithOut.bad {l m : List Ent} {s : List UInt8} {n z : Int} (h : WithOut l s n m z) (hz : z ≠ 0) : m = [] := by
  rcases h with ⟨_, h, _⟩ | ⟨_, h⟩
  · exact h
  · exact h.bad hz

set_option maxRecDepth 100000 in
set_option maxHeartbeats 2000000 in
theorem sets_any {w : World} {A : Option Addr} {c : Nat} {l : List Ent} {s o : List UInt8} {n : Int} (he : Env w) (hl : Ents w w.heap.size A l) (hnil : A = none → c = 0) (hx : ∀ e ∈ l, e.1.length ≤ maxLen) (hn : l.length ≤ maxLen) (hsl : s.length ≤ 281474976710656) (hol : o.length ≤ 281474976710656) :
    Calls Tryz.prog 6 #[.slice A l.length c, .agg #[.string (str s), .string (str o)], .int .i64 n] w (Fine w) := by
  have hbox : Below w.heap.size w (w.alloc (.cells #[.string (str s), .string (str o)] 50)) := (Below.refl _ _).alloc (Nat.le_refl _) _
  have H7 := Lib.hid (first_any (he.on hbox))
  have HBOX := Lib.hid hbox
  have k0 : (w.alloc (.cells #[.string (str s), .string (str o)] 50)).cell? ⟨w.heap.size, 0, none⟩ = some (.string (str s)) := by simp
  have k1 : (w.alloc (.cells #[.string (str s), .string (str o)] 50)).cell? ⟨w.heap.size, 1, none⟩ = some (.string (str o)) := by simp
  have hg : w.heap.size < (w.alloc (.cells #[.string (str s), .string (str o)] 50)).heap.size := by simp
  have K0 := Lib.hid k0
  have K1 := Lib.hid k1
  have HG := Lib.hid hg
  have HE := Lib.hid he
  have HL := Lib.hid hl
  have HX := Lib.hid hx
  have hss : (str s).size = s.length := str_size s
  have hos : (str o).size = o.length := str_size o
  clear he hl hx hbox k0 k1 hg
  go_enter Tryz.func6, Tryz.ntmps6
  go_wp2_with fail
  refine H7.out.mono ?_
  rintro e w1 ⟨rfl, hb1⟩
  have c0 : w1.cell? ⟨w.heap.size, 0, none⟩ = some (.string (str s)) := (hb1.cell (p := ⟨w.heap.size, 0, none⟩) HG.out).trans K0.out
  have c1 : w1.cell? ⟨w.heap.size, 1, none⟩ = some (.string (str o)) := (hb1.cell (p := ⟨w.heap.size, 1, none⟩) HG.out).trans K1.out
  have B1 : Hid (Below w.heap.size w w1) := HBOX.out.trans (hb1.mono HBOX.out.size)
  have hB1d : Below w.heap.size w w1.drew := B1.out.drew
  have E1 := Lib.hid (HE.out.on hB1d)
  have L1 := Lib.hid ((HL.out.below hB1d).more hB1d.size)
  have B1d := Lib.hid hB1d
  have H8 := Lib.hid (long_any (c := c) L1.out HX.out hn)
  clear hb1 hB1d H7
  go_wp2_with fail
  go_region
  go_wp2_with fail
  refine H8.out.mono ?_
  rintro e w2 ⟨rfl, hb2⟩
  have B2 : Hid (Below w.heap.size w w2) := B1d.out.trans (hb2.mono B1d.out.size)
  have E2 := Lib.hid (E1.out.on hb2)
  have L2 := Lib.hid ((L1.out.below hb2).more hb2.size)
  clear hb2 H8 c0 c1
  by_cases hsh : ¬ Short l
  · rw [decide_eq_true hsh]
    go_wp2_with fail
    go_ret
    exact ⟨rfl, B2.out⟩
  replace hsh := Decidable.not_not.1 hsh
  rw [decide_eq_false (fun h => h hsh)]
  have LAB2 : Hid (Lab w2 A c l) := ⟨L2.out, hnil, fun e h => Nat.le_trans (hsh.2 e h) (by omega), hn⟩
  by_cases hso : 200 < s.length + o.length
  · have hgt : ((s.length : Int) + (o.length : Int)) > 200 := by omega
    go_wp2_with fail
    go_ret
    exact ⟨rfl, B2.out⟩
  have hle : ¬ ((s.length : Int) + (o.length : Int)) > 200 := by omega
  have hs2 : s.length ≤ 2000000 := by omega
  have ho2 : o.length ≤ 2000000 := by omega
  have H11 := Lib.hid (with_any (n := n) E2.out LAB2.out hs2)
  have hl30 : l.length ≤ 1000000 := by have := hsh.1; omega
  clear hso
  go_wp2_with fail
  refine H11.out.mono ?_
  rintro e w3 ⟨hb3, A3, c3, m, z, hq, rfl, hlab⟩
  have B3 : Hid (Below w.heap.size w w3) := B2.out.trans (hb3.mono B2.out.size)
  have E3 := Lib.hid (E2.out.on hb3)
  have LA3 := Lib.hid (LAB2.out.on hb3)
  have LM3 := Lib.hid hlab
  by_cases hz : ¬ z = 0
  · have hz1 : ((z : Int) == (0 : Int)) = false := by simpa using hz
    have hm : m = [] := hq.bad hz
    subst hm
    clear hb3 hq hlab H11
    go_wp2_with fail
    go_ret
    exact ⟨rfl, B3.out⟩
  replace hz := Decidable.not_not.1 hz
  subst hz
  obtain ⟨hrl, hrm, hlev⟩ := hq.ok
  have RL := Lib.hid hrl
  have RM := Lib.hid hrm
  have LV := Lib.hid hlev
  have hm8 : m.length ≤ 1000000 := by have := hrm.1; omega
  have H14 := Lib.hid (labelRight_any (c := c3) E3.out LM3.out.ents LM3.out.txt LM3.out.len)
  rw [decide_eq_true hrm] at H14
  clear hb3 hq hlab H11 hrl hrm hlev
  go_wp2_with fail
  refine H14.out.mono ?_
  rintro e w4 ⟨rfl, hb4⟩
  have B4 : Hid (Below w.heap.size w w4) := B3.out.trans (hb4.mono B3.out.size)
  have E4 := Lib.hid (E3.out.on hb4)
  have LA4 := Lib.hid (LA3.out.on hb4)
  have LM4 := Lib.hid (LM3.out.on hb4)
  have H15 := Lib.hid (level_any (s := s) (c := c3) LM4.out.ents hm8)
  have e1 : lev m s = n := by rw [LV.out s, if_pos rfl]
  rw [e1] at H15
  clear hb4 H14 e1
  go_wp2_with fail
  refine H15.out.mono ?_
  rintro e w5 ⟨rfl, hb5⟩
  have B5 : Hid (Below w.heap.size w w5) := B4.out.trans (hb5.mono B4.out.size)
  have E5 := Lib.hid (E4.out.on hb5)
  have LA5 := Lib.hid (LA4.out.on hb5)
  have LM5 := Lib.hid (LM4.out.on hb5)
  have HTAIL : Hid (∀ W, Below w5.heap.size w5 W → Calls Tryz.prog 15 #[.slice A l.length c, .string (str s)] W fun e w' => e = .returned (.int .i64 (lev l s)) ∧ Below w5.heap.size w5 w') := fun W h =>
    (level_any (LA5.out.on h).ents hl30).mono fun e w' h2 => ⟨h2.1, h.trans (h2.2.mono h.size)⟩
  have HFLOW : Hid (∀ W, Below w5.heap.size w5 W → Calls Tryz.prog 26 #[.slice A l.length c, .slice A3 m.length c3] W fun e w' => e = .returned (.bool (decide (FlowsL l m))) ∧ Below w5.heap.size w5 w') := fun W h =>
    (flows_any (E5.out.on h) (LA5.out.on h) (LM5.out.on h)).mono fun e w' h2 => ⟨h2.1, h.trans (h2.2.mono h.size)⟩
  obtain ⟨y, hy⟩ : ∃ y, y = lev l s := ⟨_, rfl⟩
  rw [← hy] at HTAIL
  have HY := Lib.hid hy
  clear hy
  by_cases hoc : o = s
  · have hq := str_same hoc
    clear hb5 H15
    by_cases hny : n < y
    · go_wp2_with (first
        | (go_at_call 15; refine (HTAIL.out _ (Below.refl _ _)).mono ?_; rintro e w6 ⟨rfl, hb6⟩))
      go_ret
      exact ⟨rfl, B5.out.trans (hb6.mono B5.out.size)⟩
    · have HF : Hid (decide (FlowsL l m) = true) := decide_eq_true (flows_iff.2 ⟨RL.out, RM.out, fun c => by
        rw [LV.out c]
        by_cases e : s = c
        · subst e
          rw [if_pos rfl, ← HY.out]
          omega
        · rw [if_neg e]
          omega⟩)
      rw [HF.out] at HFLOW
      go_wp2_with (first
        | (go_at_call 15; refine (HTAIL.out _ (Below.refl _ _)).mono ?_; rintro e w6 ⟨rfl, hb6⟩)
        | (go_at_call 26; refine (HFLOW.out _ hb6).mono ?_; rintro e w7 ⟨rfl, hb7⟩))
      go_ret
      exact ⟨rfl, B5.out.trans (hb7.mono B5.out.size)⟩
  · have hq := str_differs hoc
    have HO1 : Hid (∀ W, Below w5.heap.size w5 W → Calls Tryz.prog 15 #[.slice A3 m.length c3, .string (str o)] W fun e w' => e = .returned (.int .i64 (lev l o)) ∧ Below w5.heap.size w5 w') := fun W h =>
      (level_any (LM5.out.on h).ents hm8).mono fun e w' h2 => ⟨by rw [h2.1, LV.out o, if_neg (fun e => hoc e.symm)], h.trans (h2.2.mono h.size)⟩
    have HO2 : Hid (∀ W, Below w5.heap.size w5 W → Calls Tryz.prog 15 #[.slice A l.length c, .string (str o)] W fun e w' => e = .returned (.int .i64 (lev l o)) ∧ Below w5.heap.size w5 w') := fun W h =>
      (level_any (LA5.out.on h).ents hl30).mono fun e w' h2 => ⟨h2.1, h.trans (h2.2.mono h.size)⟩
    obtain ⟨x, hx⟩ : ∃ x, x = lev l o := ⟨_, rfl⟩
    rw [← hx] at HO1 HO2
    clear hx hb5 H15
    go_wp2_with fail
    refine (HO1.out _ (Below.refl _ _)).mono ?_
    rintro e w6 ⟨rfl, hb6⟩
    go_wp2_with fail
    refine (HO2.out _ hb6).mono ?_
    rintro e w7 ⟨rfl, hb7⟩
    clear hb6
    by_cases hny : n < y
    · go_wp2_with (first
        | (go_at_call 15; refine (HTAIL.out _ hb7).mono ?_; rintro e w8 ⟨rfl, hb8⟩))
      go_ret
      exact ⟨rfl, B5.out.trans (hb8.mono B5.out.size)⟩
    · have HF : Hid (decide (FlowsL l m) = true) := decide_eq_true (flows_iff.2 ⟨RL.out, RM.out, fun c => by
        rw [LV.out c]
        by_cases e : s = c
        · subst e
          rw [if_pos rfl, ← HY.out]
          omega
        · rw [if_neg e]
          omega⟩)
      rw [HF.out] at HFLOW
      go_wp2_with (first
        | (go_at_call 15; refine (HTAIL.out _ hb7).mono ?_; rintro e w8 ⟨rfl, hb8⟩)
        | (go_at_call 26; refine (HFLOW.out _ hb8).mono ?_; rintro e w9 ⟨rfl, hb9⟩))
      go_ret
      exact ⟨rfl, B5.out.trans (hb9.mono B5.out.size)⟩
end Go.Proofs.YtpokdihnimlgkaaGreatDoor
