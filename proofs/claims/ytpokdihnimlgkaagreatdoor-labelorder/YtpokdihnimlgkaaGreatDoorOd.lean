/- LabelOrder, walked. -/
import Derived.Test.YtpokdihnimlgkaaGreatDoorGe
import Derived.Test.YtpokdihnimlgkaaGreatDoorFi
import Derived.Deep.CutRange
namespace Go.Proofs.YtpokdihnimlgkaaGreatDoor
open Go.RowKit

theorem MixOut.ok {pick : Int → Int → Int} {a b m : List Ent} (h1 : pick 1 1 = 1) (hp : ∀ x y, 0 ≤ x ∧ x ≤ 3 → 0 ≤ y ∧ y ≤ 3 → 0 ≤ pick x y ∧ pick x y ≤ 3) (h : MixOut pick a b m 0) : RightL m ∧ ∀ c, lev m c = pick (lev a c) (lev b c) := by
  rcases h with ⟨_, _, h⟩ | ⟨ha, hb, h⟩
  · cases h
  · obtain ⟨_, h3, h4⟩ := h.ok
    rw [picked_last h1] at h3
    refine ⟨RightL.of_labs h3 h4 fun c hc => ?_, fun c => by rw [h3.lev]⟩
    refine ⟨?_, hp _ _ (ha.level c) (hb.level c)⟩
    by_cases hka : c ∈ keys a
    · exact ha.cat hka
    · by_cases hkb : c ∈ keys b
      · exact hb.cat hkb
      · simp only [lev_out hka, lev_out hkb, h1] at hc
        exact absurd rfl hc
theorem flows_refl {a : List Ent} (h : RightL a) : FlowsL a a := flows_iff.2 ⟨h, h, fun _ => Int.le_refl _⟩
theorem flows_trans {a b c : List Ent} (h1 : FlowsL a b) (h2 : FlowsL b c) : FlowsL a c := by
  have k1 := flows_iff.1 h1
  have k2 := flows_iff.1 h2
  exact flows_iff.2 ⟨k1.1, k2.2.1, fun x => Int.le_trans (k1.2.2 x) (k2.2.2 x)⟩
theorem flows_anti {a b : List Ent} (h1 : FlowsL a b) (h2 : FlowsL b a) : a = b := by
  have k1 := flows_iff.1 h1
  have k2 := flows_iff.1 h2
  have e : lev a = lev b := by
    funext x
    have := k1.2.2 x
    have := k2.2.2 x
    omega
  have l1 := k1.1.labs
  rw [e] at l1
  exact l1.uniq k1.2.1.labs
theorem join_ok {a b j : List Ent} (ha : RightL a) (hb : RightL b) (h : MixOut pickHi a b j 0) : FlowsL a j ∧ FlowsL b j ∧ ∀ x, FlowsL a x → FlowsL b x → FlowsL j x := by
  obtain ⟨hj, hl⟩ := h.ok rfl (fun x y hx hy => by unfold pickHi; omega)
  refine ⟨flows_iff.2 ⟨ha, hj, fun c => ?_⟩, flows_iff.2 ⟨hb, hj, fun c => ?_⟩, fun x h1 h2 => flows_iff.2 ⟨hj, (flows_iff.1 h1).2.1, fun c => ?_⟩⟩
  · rw [hl]; unfold pickHi; omega
  · rw [hl]; unfold pickHi; omega
  · have k1 := (flows_iff.1 h1).2.2 c
    have k2 := (flows_iff.1 h2).2.2 c
    rw [hl]; unfold pickHi; omega
theorem meet_ok {a b j : List Ent} (ha : RightL a) (hb : RightL b) (h : MixOut pickLo a b j 0) : FlowsL j a ∧ FlowsL j b ∧ ∀ x, FlowsL x a → FlowsL x b → FlowsL x j := by
  obtain ⟨hj, hl⟩ := h.ok rfl (fun x y hx hy => by unfold pickLo; omega)
  refine ⟨flows_iff.2 ⟨hj, ha, fun c => ?_⟩, flows_iff.2 ⟨hj, hb, fun c => ?_⟩, fun x h1 h2 => flows_iff.2 ⟨(flows_iff.1 h1).1, hj, fun c => ?_⟩⟩
  · rw [hl]; unfold pickLo; omega
  · rw [hl]; unfold pickLo; omega
  · have k1 := (flows_iff.1 h1).2.2 c
    have k2 := (flows_iff.1 h2).2.2 c
    rw [hl]; unfold pickLo; omega

/-- A pen, just made. -/
theorem pen_made (w : World) : PenB (w.alloc (.cells #[.slice none 0 0] 37)) w.heap.size w.heap.size [] :=
  ⟨none, ⟨.slice none 0 0, by simp, by simp, rfl, World.ownsRow_nil _ _ _ _, by simp⟩, Nat.le_refl _, fun j h => by cases h⟩

set_option maxRecDepth 100000 in
set_option maxHeartbeats 4000000 in
theorem order_any {w : World} {A B X : Option Addr} {ca cb cx : Nat} {a b x : List Ent} (he : Env w) (ha : Lab w A ca a) (hb : Lab w B cb b) (hx : Lab w X cx x) :
    Calls Tryz.prog 5 #[.slice A a.length ca, .slice B b.length cb, .slice X x.length cx] w (Fine w) := by
  have H7 := Lib.hid (first_any he)
  have HE := Lib.hid he
  have HA := Lib.hid ha
  have HB := Lib.hid hb
  have HX := Lib.hid hx
  clear he ha hb hx
  go_enter Tryz.func5, Tryz.ntmps5
  go_wp2_with fail
  refine H7.out.mono ?_
  rintro e w1 ⟨rfl, hb1⟩
  have B1 := Lib.hid hb1
  have E1 := Lib.hid (HE.out.on hb1)
  have A1 := Lib.hid (HA.out.on hb1)
  have C1 := Lib.hid (HB.out.on hb1)
  have X1 := Lib.hid (HX.out.on hb1)
  have H14 := Lib.hid (labelRight_any (c := ca) E1.out A1.out.ents A1.out.txt A1.out.len)
  clear hb1 H7 HA HB HX HE
  go_wp2_with fail
  refine H14.out.mono ?_
  rintro e w2 ⟨rfl, hb2⟩
  have B2 : Hid (Below w.heap.size w w2) := B1.out.trans (hb2.mono B1.out.size)
  have E2 := Lib.hid (E1.out.on hb2)
  have A2 := Lib.hid (A1.out.on hb2)
  have C2 := Lib.hid (C1.out.on hb2)
  have X2 := Lib.hid (X1.out.on hb2)
  clear hb2 H14 E1 A1 C1 X1
  by_cases hra : ¬ RightL a
  · rw [decide_eq_false hra]
    go_wp2_with fail
    go_ret
    exact ⟨rfl, B2.out⟩
  replace hra := Decidable.not_not.1 hra
  rw [decide_eq_true hra]
  have H14b := Lib.hid (labelRight_any (c := cb) E2.out C2.out.ents C2.out.txt C2.out.len)
  go_wp2_with fail
  refine H14b.out.mono ?_
  rintro e w3 ⟨rfl, hb3⟩
  have B3 : Hid (Below w.heap.size w w3) := B2.out.trans (hb3.mono B2.out.size)
  have E3 := Lib.hid (E2.out.on hb3)
  have A3 := Lib.hid (A2.out.on hb3)
  have C3 := Lib.hid (C2.out.on hb3)
  have X3 := Lib.hid (X2.out.on hb3)
  clear hb3 H14b E2 A2 C2 X2
  by_cases hrb : ¬ RightL b
  · rw [decide_eq_false hrb]
    go_wp2_with fail
    go_ret
    exact ⟨rfl, B3.out⟩
  replace hrb := Decidable.not_not.1 hrb
  rw [decide_eq_true hrb]
  have H14c := Lib.hid (labelRight_any (c := cx) E3.out X3.out.ents X3.out.txt X3.out.len)
  go_wp2_with fail
  refine H14c.out.mono ?_
  rintro e w4 ⟨rfl, hb4⟩
  have B4 : Hid (Below w.heap.size w w4) := B3.out.trans (hb4.mono B3.out.size)
  have E4 := Lib.hid (E3.out.on hb4)
  have A4 := Lib.hid (A3.out.on hb4)
  have C4 := Lib.hid (C3.out.on hb4)
  have X4 := Lib.hid (X3.out.on hb4)
  clear hb4 H14c E3 A3 C3 X3
  by_cases hrx : ¬ RightL x
  · rw [decide_eq_false hrx]
    go_wp2_with fail
    go_ret
    exact ⟨rfl, B4.out⟩
  replace hrx := Decidable.not_not.1 hrx
  rw [decide_eq_true hrx]
  have RA := Lib.hid hra
  have RB := Lib.hid hrb
  have RX := Lib.hid hrx
  have ha8 := hra.1
  have hb8 := hrb.1
  clear hra hrb hrx
  have HSA : Hid (∀ e ∈ a, e.1.length ≤ 3000) := fun e h => by
    have h1 := entErr_zero.1 (RA.out.2.1 e h).1
    cases hc : catOf e.1 with
    | none => rw [hc] at h1; cases h1.1
    | some p =>
      obtain ⟨⟨⟨hl, hp⟩, hn⟩, hx⟩ := catOf_iff.1 hc
      have h2 := path_len p.1 hp
      have h3 := dec_len7 (u := p.2) (by omega)
      rw [hx]
      unfold catText
      rw [List.length_append, List.length_cons]
      omega
  have HLL : Hid ((labBytes a).length ≤ 900000) := by
    have h1 := Tp.enc_nine (n := a.length) (by omega)
    have h2 := flat_len a HSA.out
    unfold Hid labBytes
    rw [List.length_append]
    omega
  obtain ⟨N, hN⟩ : ∃ N, N = w4.heap.size := ⟨_, rfl⟩
  have h8N : 8 ≤ N := by rw [hN]; exact E4.out.1
  obtain ⟨W5, hW5⟩ : ∃ W5, W5 = w4.alloc (.cells #[.slice none 0 0] 37) := ⟨_, rfl⟩
  have hb5 : Below N w4 W5 := by rw [hW5, hN]; exact (Below.refl _ _).alloc (Nat.le_refl _) _
  have hs5 : N ≤ W5.heap.size := by rw [hN]; exact hb5.size
  have hp5 : PenB W5 N N [] := by rw [hW5, hN]; exact pen_made w4
  have hA4 : Ents w4 N A a := by rw [hN]; exact A4.out.ents
  have H13 := Lib.hid (put_any (c := ca) hp5 hs5 (hA4.below hb5) (by omega) HSA.out)
  have HW5 := Lib.hid hW5
  have HN := Lib.hid hN
  have B5 := Lib.hid hb5
  clear hW5 hN hb5 hs5 hp5 hA4
  go_wp2_with fail
  rw [← HW5.out, ← HN.out]
  refine H13.out.mono ?_
  rintro e w6 ⟨rfl, hp6, hb6⟩
  have B6 := Lib.hid (B5.out.trans hb6)
  obtain ⟨k6, hp6, _, _⟩ := hp6
  have H20 := Lib.hid (Tp.pen_bytes hp6 HLL.out)
  clear hp6 hb6 H13
  go_wp2_with fail
  refine H20.out.mono ?_
  rintro e w7 ⟨A7, c7, rfl, h7, _, h7n, _, _, hb7⟩
  have B7 : Hid (Below N w4 w7) := B6.out.trans (hb7.mono (by have := B6.out.size; have := HN.out; omega))
  have H29 := Lib.hid (Tp.tape_new (c := c7) h7 h7n HLL.out)
  clear h7 h7n hb7 H20
  go_wp2_with fail
  refine H29.out.mono ?_
  rintro e w8 ⟨g8, k8, rfl, ht8, hg8, _, hb8'⟩
  have hN7 : N ≤ w7.heap.size := by have := B7.out.size; have := HN.out; omega
  have B8 : Hid (Below N w4 w8) := B7.out.trans (hb8'.mono hN7)
  have E8 := Lib.hid (E4.out.below B8.out h8N)
  have H28 := Lib.hid (get_label E8.out h8N ht8 (Nat.le_trans hN7 hg8) RA.out)
  clear ht8 hg8 hb8' H29
  go_wp2_with fail
  refine H28.out.mono ?_
  rintro e w9 ⟨hb9, G, cg, rfl, hlg⟩
  have B9n : Hid (Below N w4 w9) := B8.out.trans hb9
  have B9w : Below w4.heap.size w4 w9 := by rw [← HN.out]; exact B9n.out
  have E9 := Lib.hid (E4.out.on B9w)
  have LA := Lib.hid (A4.out.on B9w)
  have LB := Lib.hid (C4.out.on B9w)
  have LX := Lib.hid (X4.out.on B9w)
  have LG := Lib.hid hlg
  have B9 : Hid (Below w.heap.size w w9) := B4.out.trans (B9w.mono B4.out.size)
  clear hb9 hlg B9w B9n B8 B7 B6 B5 H28 HW5 HN E8 E4 A4 C4 X4 HSA HLL
  have h0 := Below.refl w9.heap.size w9
  have Sga : Hid (∀ W, Below w9.heap.size w9 W → Calls Tryz.prog 22 #[.slice G a.length cg, .slice A a.length ca] W fun e w' => e = .returned (.bool true) ∧ Below w9.heap.size w9 w') := fun W h => by
    have h1 := (same_any (LG.out.on h) (LA.out.on h) (by omega)).mono fun e w' (h2 : RetB W _ e w') => (⟨h2.1, h.trans (h2.2.mono h.size)⟩ : e = .returned (.bool (decide (a = a))) ∧ Below w9.heap.size w9 w')
    rwa [decide_eq_true rfl] at h1
  have Faa : Hid (∀ W, Below w9.heap.size w9 W → Calls Tryz.prog 26 #[.slice A a.length ca, .slice A a.length ca] W fun e w' => e = .returned (.bool true) ∧ Below w9.heap.size w9 w') := fun W h => by
    have h1 := (flows_any (E9.out.on h) (LA.out.on h) (LA.out.on h)).mono fun e w' (h2 : RetB W _ e w') => (⟨h2.1, h.trans (h2.2.mono h.size)⟩ : e = .returned (.bool (decide (FlowsL a a))) ∧ Below w9.heap.size w9 w')
    rwa [decide_eq_true (flows_refl RA.out)] at h1
  obtain ⟨p, hp⟩ : ∃ p, p = decide (FlowsL a b) := ⟨_, rfl⟩
  obtain ⟨q, hq⟩ : ∃ q, q = decide (FlowsL b x) := ⟨_, rfl⟩
  obtain ⟨r, hr⟩ : ∃ r, r = decide (FlowsL b a) := ⟨_, rfl⟩
  obtain ⟨s, hs⟩ : ∃ s, s = decide (FlowsL a x) := ⟨_, rfl⟩
  have Fab : Hid (∀ W, Below w9.heap.size w9 W → Calls Tryz.prog 26 #[.slice A a.length ca, .slice B b.length cb] W fun e w' => e = .returned (.bool p) ∧ Below w9.heap.size w9 w') := fun W h => by
    have h1 := (flows_any (E9.out.on h) (LA.out.on h) (LB.out.on h)).mono fun e w' (h2 : RetB W _ e w') => (⟨h2.1, h.trans (h2.2.mono h.size)⟩ : e = .returned (.bool (decide (FlowsL a b))) ∧ Below w9.heap.size w9 w')
    rwa [← hp] at h1
  have Fbx : Hid (∀ W, Below w9.heap.size w9 W → Calls Tryz.prog 26 #[.slice B b.length cb, .slice X x.length cx] W fun e w' => e = .returned (.bool q) ∧ Below w9.heap.size w9 w') := fun W h => by
    have h1 := (flows_any (E9.out.on h) (LB.out.on h) (LX.out.on h)).mono fun e w' (h2 : RetB W _ e w') => (⟨h2.1, h.trans (h2.2.mono h.size)⟩ : e = .returned (.bool (decide (FlowsL b x))) ∧ Below w9.heap.size w9 w')
    rwa [← hq] at h1
  have Fba : Hid (∀ W, Below w9.heap.size w9 W → Calls Tryz.prog 26 #[.slice B b.length cb, .slice A a.length ca] W fun e w' => e = .returned (.bool r) ∧ Below w9.heap.size w9 w') := fun W h => by
    have h1 := (flows_any (E9.out.on h) (LB.out.on h) (LA.out.on h)).mono fun e w' (h2 : RetB W _ e w') => (⟨h2.1, h.trans (h2.2.mono h.size)⟩ : e = .returned (.bool (decide (FlowsL b a))) ∧ Below w9.heap.size w9 w')
    rwa [← hr] at h1
  have Fax : Hid (∀ W, Below w9.heap.size w9 W → Calls Tryz.prog 26 #[.slice A a.length ca, .slice X x.length cx] W fun e w' => e = .returned (.bool s) ∧ Below w9.heap.size w9 w') := fun W h => by
    have h1 := (flows_any (E9.out.on h) (LA.out.on h) (LX.out.on h)).mono fun e w' (h2 : RetB W _ e w') => (⟨h2.1, h.trans (h2.2.mono h.size)⟩ : e = .returned (.bool (decide (FlowsL a x))) ∧ Below w9.heap.size w9 w')
    rwa [← hs] at h1
  have HP := Lib.hid hp
  have HQ := Lib.hid hq
  have HR := Lib.hid hr
  have HS := Lib.hid hs
  clear hp hq hr hs
  go_upto_region 8 with fail
  go_cut [84] from 39 to 84 (fun s84 wc => s84 = .bool false ∧ Below w9.heap.size w9 wc)
  case first =>
    cases p with
    | false =>
      go_wp2_with fail
      refine (Sga.out _ h0).mono ?_
      rintro e y1 ⟨rfl, hy1⟩
      go_wp2_with fail
      refine (Faa.out _ hy1).mono ?_
      rintro e y2 ⟨rfl, hy2⟩
      go_wp2_with fail
      refine (Fab.out _ hy2).mono ?_
      rintro e y3 ⟨rfl, hy3⟩
      go_wp2_with fail
      refine (Fab.out _ hy3).mono ?_
      rintro e y4 ⟨rfl, hy4⟩
      go_wp2_with fail
      go_meet
      case rel => exact ⟨rfl, hy4⟩
    | true =>
      have hab : FlowsL a b := of_decide_eq_true HP.out.symm
      have Sab : Hid (r = true → ∀ W, Below w9.heap.size w9 W → Calls Tryz.prog 22 #[.slice A a.length ca, .slice B b.length cb] W fun e w' => e = .returned (.bool true) ∧ Below w9.heap.size w9 w') := fun hr W h => by
        have h1 := (same_any (LA.out.on h) (LB.out.on h) (by omega)).mono fun e w' (h2 : RetB W _ e w') => (⟨h2.1, h.trans (h2.2.mono h.size)⟩ : e = .returned (.bool (decide (a = b))) ∧ Below w9.heap.size w9 w')
        rwa [decide_eq_true (flows_anti hab (of_decide_eq_true (HR.out.symm.trans hr)))] at h1
      cases q with
      | false =>
        cases r with
        | false =>
          go_wp2_with fail
          refine (Sga.out _ h0).mono ?_
          rintro e y1 ⟨rfl, hy1⟩
          go_wp2_with fail
          refine (Faa.out _ hy1).mono ?_
          rintro e y2 ⟨rfl, hy2⟩
          go_wp2_with fail
          refine (Fab.out _ hy2).mono ?_
          rintro e y3 ⟨rfl, hy3⟩
          go_wp2_with fail
          refine (Fbx.out _ hy3).mono ?_
          rintro e y4 ⟨rfl, hy4⟩
          go_wp2_with fail
          refine (Fab.out _ hy4).mono ?_
          rintro e y5 ⟨rfl, hy5⟩
          go_wp2_with fail
          refine (Fba.out _ hy5).mono ?_
          rintro e y6 ⟨rfl, hy6⟩
          go_wp2_with fail
          go_meet
          case rel => exact ⟨rfl, hy6⟩
        | true =>
          have Sab2 := Lib.hid (Sab.out rfl)
          go_wp2_with fail
          refine (Sga.out _ h0).mono ?_
          rintro e y1 ⟨rfl, hy1⟩
          go_wp2_with fail
          refine (Faa.out _ hy1).mono ?_
          rintro e y2 ⟨rfl, hy2⟩
          go_wp2_with fail
          refine (Fab.out _ hy2).mono ?_
          rintro e y3 ⟨rfl, hy3⟩
          go_wp2_with fail
          refine (Fbx.out _ hy3).mono ?_
          rintro e y4 ⟨rfl, hy4⟩
          go_wp2_with fail
          refine (Fab.out _ hy4).mono ?_
          rintro e y5 ⟨rfl, hy5⟩
          go_wp2_with fail
          refine (Fba.out _ hy5).mono ?_
          rintro e y6 ⟨rfl, hy6⟩
          go_wp2_with fail
          refine (Sab2.out _ hy6).mono ?_
          rintro e y7 ⟨rfl, hy7⟩
          go_wp2_with fail
          go_meet
          case rel => exact ⟨rfl, hy7⟩
      | true =>
        have hs : s = true := HS.out.trans (decide_eq_true (flows_trans hab (of_decide_eq_true HQ.out.symm)))
        subst hs
        cases r with
        | false =>
          go_wp2_with fail
          refine (Sga.out _ h0).mono ?_
          rintro e y1 ⟨rfl, hy1⟩
          go_wp2_with fail
          refine (Faa.out _ hy1).mono ?_
          rintro e y2 ⟨rfl, hy2⟩
          go_wp2_with fail
          refine (Fab.out _ hy2).mono ?_
          rintro e y3 ⟨rfl, hy3⟩
          go_wp2_with fail
          refine (Fbx.out _ hy3).mono ?_
          rintro e y4 ⟨rfl, hy4⟩
          go_wp2_with fail
          refine (Fax.out _ hy4).mono ?_
          rintro e y5 ⟨rfl, hy5⟩
          go_wp2_with fail
          refine (Fab.out _ hy5).mono ?_
          rintro e y6 ⟨rfl, hy6⟩
          go_wp2_with fail
          refine (Fba.out _ hy6).mono ?_
          rintro e y7 ⟨rfl, hy7⟩
          go_wp2_with fail
          go_meet
          case rel => exact ⟨rfl, hy7⟩
        | true =>
          have Sab2 := Lib.hid (Sab.out rfl)
          go_wp2_with fail
          refine (Sga.out _ h0).mono ?_
          rintro e y1 ⟨rfl, hy1⟩
          go_wp2_with fail
          refine (Faa.out _ hy1).mono ?_
          rintro e y2 ⟨rfl, hy2⟩
          go_wp2_with fail
          refine (Fab.out _ hy2).mono ?_
          rintro e y3 ⟨rfl, hy3⟩
          go_wp2_with fail
          refine (Fbx.out _ hy3).mono ?_
          rintro e y4 ⟨rfl, hy4⟩
          go_wp2_with fail
          refine (Fax.out _ hy4).mono ?_
          rintro e y5 ⟨rfl, hy5⟩
          go_wp2_with fail
          refine (Fab.out _ hy5).mono ?_
          rintro e y6 ⟨rfl, hy6⟩
          go_wp2_with fail
          refine (Fba.out _ hy6).mono ?_
          rintro e y7 ⟨rfl, hy7⟩
          go_wp2_with fail
          refine (Sab2.out _ hy7).mono ?_
          rintro e y8 ⟨rfl, hy8⟩
          go_wp2_with fail
          go_meet
          case rel => exact ⟨rfl, hy8⟩
  case rest =>
    obtain ⟨rfl, hbc⟩ := hcut
    have E10 := Lib.hid (E9.out.on hbc)
    have LA2 := Lib.hid (LA.out.on hbc)
    have LB2 := Lib.hid (LB.out.on hbc)
    have LX2 := Lib.hid (LX.out.on hbc)
    have B10 : Hid (Below w.heap.size w wc) := B9.out.trans (hbc.mono B9.out.size)
    have H23 := Lib.hid (labelJoin_any E10.out LA2.out LB2.out)
    clear hbc Sga Faa Fab Fbx Fba Fax h0
    go_wp2_with fail
    refine H23.out.mono ?_
    rintro e w11 ⟨hb11, J, cj, j, z, hmix, rfl, hlj⟩
    have B11 : Hid (Below w.heap.size w w11) := B10.out.trans (hb11.mono B10.out.size)
    have E11 := Lib.hid (E10.out.on hb11)
    have LA3 := Lib.hid (LA2.out.on hb11)
    have LB3 := Lib.hid (LB2.out.on hb11)
    have LX3 := Lib.hid (LX2.out.on hb11)
    have LJ3 := Lib.hid hlj
    have HMIX := Lib.hid hmix
    clear hb11 hlj hmix H23 E10 LA2 LB2 LX2 E9 LA LB LX LG
    have h0 := Below.refl w11.heap.size w11
    go_upto_region 11 with fail
    go_cut [120] from 91 to 120 (fun s120 wd => s120 = .bool false ∧ Below w11.heap.size w11 wd)
    case first =>
      by_cases hz : ¬ z = 0
      · have hz1 : ((z : Int) == (0 : Int)) = false := by simpa using hz
        go_wp2_with fail
        go_meet
        case rel => exact ⟨rfl, h0⟩
      replace hz := Decidable.not_not.1 hz
      subst hz
      obtain ⟨haj, hbj, hle⟩ := join_ok RA.out RB.out HMIX.out
      have Faj : Hid (∀ W, Below w11.heap.size w11 W → Calls Tryz.prog 26 #[.slice A a.length ca, .slice J j.length cj] W fun e w' => e = .returned (.bool true) ∧ Below w11.heap.size w11 w') := fun W h => by
        have h1 := (flows_any (E11.out.on h) (LA3.out.on h) (LJ3.out.on h)).mono fun e w' (h2 : RetB W _ e w') => (⟨h2.1, h.trans (h2.2.mono h.size)⟩ : e = .returned (.bool (decide (FlowsL a j))) ∧ Below w11.heap.size w11 w')
        rwa [decide_eq_true haj] at h1
      have Fbj : Hid (∀ W, Below w11.heap.size w11 W → Calls Tryz.prog 26 #[.slice B b.length cb, .slice J j.length cj] W fun e w' => e = .returned (.bool true) ∧ Below w11.heap.size w11 w') := fun W h => by
        have h1 := (flows_any (E11.out.on h) (LB3.out.on h) (LJ3.out.on h)).mono fun e w' (h2 : RetB W _ e w') => (⟨h2.1, h.trans (h2.2.mono h.size)⟩ : e = .returned (.bool (decide (FlowsL b j))) ∧ Below w11.heap.size w11 w')
        rwa [decide_eq_true hbj] at h1
      have Fax : Hid (∀ W, Below w11.heap.size w11 W → Calls Tryz.prog 26 #[.slice A a.length ca, .slice X x.length cx] W fun e w' => e = .returned (.bool s) ∧ Below w11.heap.size w11 w') := fun W h => by
        have h1 := (flows_any (E11.out.on h) (LA3.out.on h) (LX3.out.on h)).mono fun e w' (h2 : RetB W _ e w') => (⟨h2.1, h.trans (h2.2.mono h.size)⟩ : e = .returned (.bool (decide (FlowsL a x))) ∧ Below w11.heap.size w11 w')
        rwa [← HS.out] at h1
      have Fbx : Hid (∀ W, Below w11.heap.size w11 W → Calls Tryz.prog 26 #[.slice B b.length cb, .slice X x.length cx] W fun e w' => e = .returned (.bool q) ∧ Below w11.heap.size w11 w') := fun W h => by
        have h1 := (flows_any (E11.out.on h) (LB3.out.on h) (LX3.out.on h)).mono fun e w' (h2 : RetB W _ e w') => (⟨h2.1, h.trans (h2.2.mono h.size)⟩ : e = .returned (.bool (decide (FlowsL b x))) ∧ Below w11.heap.size w11 w')
        rwa [← HQ.out] at h1
      cases s with
      | false =>
        go_wp2_with fail
        refine (Faj.out _ h0).mono ?_
        rintro e y1 ⟨rfl, hy1⟩
        go_wp2_with fail
        refine (Fbj.out _ hy1).mono ?_
        rintro e y2 ⟨rfl, hy2⟩
        go_wp2_with fail
        refine (Fax.out _ hy2).mono ?_
        rintro e y3 ⟨rfl, hy3⟩
        go_wp2_with fail
        go_meet
        case rel => exact ⟨rfl, hy3⟩
      | true =>
        cases q with
        | false =>
          go_wp2_with fail
          refine (Faj.out _ h0).mono ?_
          rintro e y1 ⟨rfl, hy1⟩
          go_wp2_with fail
          refine (Fbj.out _ hy1).mono ?_
          rintro e y2 ⟨rfl, hy2⟩
          go_wp2_with fail
          refine (Fax.out _ hy2).mono ?_
          rintro e y3 ⟨rfl, hy3⟩
          go_wp2_with fail
          refine (Fbx.out _ hy3).mono ?_
          rintro e y4 ⟨rfl, hy4⟩
          go_wp2_with fail
          go_meet
          case rel => exact ⟨rfl, hy4⟩
        | true =>
          have Fjx : Hid (∀ W, Below w11.heap.size w11 W → Calls Tryz.prog 26 #[.slice J j.length cj, .slice X x.length cx] W fun e w' => e = .returned (.bool true) ∧ Below w11.heap.size w11 w') := fun W h => by
            have h1 := (flows_any (E11.out.on h) (LJ3.out.on h) (LX3.out.on h)).mono fun e w' (h2 : RetB W _ e w') => (⟨h2.1, h.trans (h2.2.mono h.size)⟩ : e = .returned (.bool (decide (FlowsL j x))) ∧ Below w11.heap.size w11 w')
            rwa [decide_eq_true (hle x (of_decide_eq_true HS.out.symm) (of_decide_eq_true HQ.out.symm))] at h1
          go_wp2_with fail
          refine (Faj.out _ h0).mono ?_
          rintro e y1 ⟨rfl, hy1⟩
          go_wp2_with fail
          refine (Fbj.out _ hy1).mono ?_
          rintro e y2 ⟨rfl, hy2⟩
          go_wp2_with fail
          refine (Fax.out _ hy2).mono ?_
          rintro e y3 ⟨rfl, hy3⟩
          go_wp2_with fail
          refine (Fbx.out _ hy3).mono ?_
          rintro e y4 ⟨rfl, hy4⟩
          go_wp2_with fail
          refine (Fjx.out _ hy4).mono ?_
          rintro e y5 ⟨rfl, hy5⟩
          go_wp2_with fail
          go_meet
          case rel => exact ⟨rfl, hy5⟩
    case rest =>
      obtain ⟨rfl, hbd⟩ := hcut
      have E12 := Lib.hid (E11.out.on hbd)
      have LA4 := Lib.hid (LA3.out.on hbd)
      have LB4 := Lib.hid (LB3.out.on hbd)
      have LX4 := Lib.hid (LX3.out.on hbd)
      have B12 : Hid (Below w.heap.size w wc) := B11.out.trans (hbd.mono B11.out.size)
      have H25 := Lib.hid (labelMeet_any E12.out LA4.out LB4.out)
      clear hbd h0 E11 LA3 LB3 LX3 LJ3 HMIX
      go_wp2_with fail
      refine H25.out.mono ?_
      rintro e w13 ⟨hb13, M, cm, m, y, hmix, rfl, hlm⟩
      have B13 : Hid (Below w.heap.size w w13) := B12.out.trans (hb13.mono B12.out.size)
      have E13 := Lib.hid (E12.out.on hb13)
      have LA5 := Lib.hid (LA4.out.on hb13)
      have LB5 := Lib.hid (LB4.out.on hb13)
      have LX5 := Lib.hid (LX4.out.on hb13)
      have LM5 := Lib.hid hlm
      have h0 := Below.refl w13.heap.size w13
      by_cases hz : ¬ y = 0
      · have hz1 : ((y : Int) == (0 : Int)) = false := by simpa using hz
        have hz2 : ((y : Int) != (0 : Int)) = true := by simpa using hz
        clear hb13 hlm hmix H25
        go_wp2_with fail
        go_ret
        exact ⟨rfl, B13.out⟩
      replace hz := Decidable.not_not.1 hz
      subst hz
      obtain ⟨hma, hmb, hge⟩ := meet_ok RA.out RB.out hmix
      clear hb13 hlm hmix H25 E12 LA4 LB4 LX4
      obtain ⟨t, ht⟩ : ∃ t, t = decide (FlowsL x a) := ⟨_, rfl⟩
      obtain ⟨u, hu⟩ : ∃ u, u = decide (FlowsL x b) := ⟨_, rfl⟩
      have Fma : Hid (∀ W, Below w13.heap.size w13 W → Calls Tryz.prog 26 #[.slice M m.length cm, .slice A a.length ca] W fun e w' => e = .returned (.bool true) ∧ Below w13.heap.size w13 w') := fun W h => by
        have h1 := (flows_any (E13.out.on h) (LM5.out.on h) (LA5.out.on h)).mono fun e w' (h2 : RetB W _ e w') => (⟨h2.1, h.trans (h2.2.mono h.size)⟩ : e = .returned (.bool (decide (FlowsL m a))) ∧ Below w13.heap.size w13 w')
        rwa [decide_eq_true hma] at h1
      have Fmb : Hid (∀ W, Below w13.heap.size w13 W → Calls Tryz.prog 26 #[.slice M m.length cm, .slice B b.length cb] W fun e w' => e = .returned (.bool true) ∧ Below w13.heap.size w13 w') := fun W h => by
        have h1 := (flows_any (E13.out.on h) (LM5.out.on h) (LB5.out.on h)).mono fun e w' (h2 : RetB W _ e w') => (⟨h2.1, h.trans (h2.2.mono h.size)⟩ : e = .returned (.bool (decide (FlowsL m b))) ∧ Below w13.heap.size w13 w')
        rwa [decide_eq_true hmb] at h1
      have Fxa : Hid (∀ W, Below w13.heap.size w13 W → Calls Tryz.prog 26 #[.slice X x.length cx, .slice A a.length ca] W fun e w' => e = .returned (.bool t) ∧ Below w13.heap.size w13 w') := fun W h => by
        have h1 := (flows_any (E13.out.on h) (LX5.out.on h) (LA5.out.on h)).mono fun e w' (h2 : RetB W _ e w') => (⟨h2.1, h.trans (h2.2.mono h.size)⟩ : e = .returned (.bool (decide (FlowsL x a))) ∧ Below w13.heap.size w13 w')
        rwa [← ht] at h1
      have Fxb : Hid (∀ W, Below w13.heap.size w13 W → Calls Tryz.prog 26 #[.slice X x.length cx, .slice B b.length cb] W fun e w' => e = .returned (.bool u) ∧ Below w13.heap.size w13 w') := fun W h => by
        have h1 := (flows_any (E13.out.on h) (LX5.out.on h) (LB5.out.on h)).mono fun e w' (h2 : RetB W _ e w') => (⟨h2.1, h.trans (h2.2.mono h.size)⟩ : e = .returned (.bool (decide (FlowsL x b))) ∧ Below w13.heap.size w13 w')
        rwa [← hu] at h1
      have HT := Lib.hid ht
      have HU := Lib.hid hu
      have HGE := Lib.hid hge
      clear ht hu hma hmb hge
      cases t with
      | false =>
        go_wp2_with fail
        refine (Fma.out _ h0).mono ?_
        rintro e y1 ⟨rfl, hy1⟩
        go_wp2_with fail
        refine (Fmb.out _ hy1).mono ?_
        rintro e y2 ⟨rfl, hy2⟩
        go_wp2_with fail
        refine (Fxa.out _ hy2).mono ?_
        rintro e y3 ⟨rfl, hy3⟩
        go_wp2_with fail
        go_ret
        exact ⟨rfl, B13.out.trans (hy3.mono B13.out.size)⟩
      | true =>
        cases u with
        | false =>
          go_wp2_with fail
          refine (Fma.out _ h0).mono ?_
          rintro e y1 ⟨rfl, hy1⟩
          go_wp2_with fail
          refine (Fmb.out _ hy1).mono ?_
          rintro e y2 ⟨rfl, hy2⟩
          go_wp2_with fail
          refine (Fxa.out _ hy2).mono ?_
          rintro e y3 ⟨rfl, hy3⟩
          go_wp2_with fail
          refine (Fxb.out _ hy3).mono ?_
          rintro e y4 ⟨rfl, hy4⟩
          go_wp2_with fail
          go_ret
          exact ⟨rfl, B13.out.trans (hy4.mono B13.out.size)⟩
        | true =>
          have Fxm : Hid (∀ W, Below w13.heap.size w13 W → Calls Tryz.prog 26 #[.slice X x.length cx, .slice M m.length cm] W fun e w' => e = .returned (.bool true) ∧ Below w13.heap.size w13 w') := fun W h => by
            have h1 := (flows_any (E13.out.on h) (LX5.out.on h) (LM5.out.on h)).mono fun e w' (h2 : RetB W _ e w') => (⟨h2.1, h.trans (h2.2.mono h.size)⟩ : e = .returned (.bool (decide (FlowsL x m))) ∧ Below w13.heap.size w13 w')
            rwa [decide_eq_true (HGE.out x (of_decide_eq_true HT.out.symm) (of_decide_eq_true HU.out.symm))] at h1
          go_wp2_with fail
          refine (Fma.out _ h0).mono ?_
          rintro e y1 ⟨rfl, hy1⟩
          go_wp2_with fail
          refine (Fmb.out _ hy1).mono ?_
          rintro e y2 ⟨rfl, hy2⟩
          go_wp2_with fail
          refine (Fxa.out _ hy2).mono ?_
          rintro e y3 ⟨rfl, hy3⟩
          go_wp2_with fail
          refine (Fxb.out _ hy3).mono ?_
          rintro e y4 ⟨rfl, hy4⟩
          go_wp2_with fail
          refine (Fxm.out _ hy4).mono ?_
          rintro e y5 ⟨rfl, hy5⟩
          go_wp2_with fail
          go_ret
          exact ⟨rfl, B13.out.trans (hy5.mono B13.out.size)⟩
end Go.Proofs.YtpokdihnimlgkaaGreatDoor
