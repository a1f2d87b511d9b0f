/- every at strings, owns.Within; every at entries, owns.Flows, Sees, Alters. -/
import Derived.Test.YtglidfmgechneaaGreatDoorOc
import Derived.Test.YtglidfmgechneaaGreatDoorFl
namespace Go.Proofs.YtglidfmgechneaaGreatDoor
open Go.RowKit

theorem within1_any {w : World} {g : Nat} {B : Option Addr} {d : Nat} {b : List (List UInt8)} {s : List UInt8} (hc : w.cell? ⟨g, 0, none⟩ = some (.slice B b.length d)) (hb : Strs w w.heap.size B b) (hn : b.length ≤ 1000000) :
    Calls Tryz.prog 47 #[.string (str s), .pointer (some ⟨g, 0, none⟩)] w fun e w' => e = .returned (.bool (decide (s ∈ b))) ∧ w = w' := by
  have H := Lib.hid (has_any (c := d) (s := s) hb hn)
  clear hb
  go_enter Tryz.func47, Tryz.ntmps47
  go_wp2_with fail
  refine H.out.mono ?_
  rintro e w1 ⟨rfl, rfl⟩
  go_wp2_with fail
  go_ret
  exact ⟨rfl, rfl⟩

def EvRel (w : World) (a b : List (List UInt8)) (k : Nat) (i : Value) (wr : World) : Prop :=
  ∃ m, m + k = a.length ∧ i = .int .i64 (m : Int) ∧ (∀ y ∈ a.take m, y ∈ b) ∧ w = wr

set_option maxRecDepth 100000 in
theorem everyS_any {w : World} {g : Nat} {A B : Option Addr} {c d : Nat} {a b : List (List UInt8)} (ha : Strs w w.heap.size A a) (hna : a.length ≤ 1000000) (hc : w.cell? ⟨g, 0, none⟩ = some (.slice B b.length d)) (hb : Strs w w.heap.size B b) (hn : b.length ≤ 1000000) :
    Calls Tryz.prog 46 #[.slice A a.length c, .func (.func 47) #[] #[.pointer (some ⟨g, 0, none⟩)]] w fun e w' => e = .returned (.bool (decide (∀ x ∈ a, x ∈ b))) ∧ w = w' := by
  have HL := Lib.hid ha
  have H47 : Hid (∀ s, Calls Tryz.prog 47 #[.string (str s), .pointer (some ⟨g, 0, none⟩)] w fun e w' => e = .returned (.bool (decide (s ∈ b))) ∧ w = w') := fun s => within1_any hc hb hn
  clear ha hc hb
  go_enter Tryz.func46, Tryz.ntmps46
  go_wp2_with fail
  go_loopg [9] a.length (fun k i wr => EvRel w a b k i wr)
  case atStart => exact ⟨0, by simp, rfl, by simp, rfl⟩
  case round =>
    obtain ⟨m, hmk, hi, hno, hw⟩ := hrel
    subst hi hw
    have HN := Lib.hid hno
    clear hno
    cases gk with
    | zero =>
      have hge : a.length ≤ m := by omega
      have HD : Hid (decide (∀ x ∈ a, x ∈ b) = true) := decide_eq_true (by
        have := HN.out
        rwa [List.take_of_length_le hge] at this)
      go_wp2_with fail
      go_ret
      exact ⟨by rw [HD.out] <;> rfl, rfl⟩
    | succ j =>
      have hm : m < a.length := by omega
      obtain ⟨x, hx⟩ : ∃ x, a[m]? = some x := ⟨_, List.getElem?_eq_getElem hm⟩
      obtain ⟨bk, o, rfl, hlt, hcells⟩ := HL.out (by omega)
      have cx := hcells m x hx
      have HM := Lib.hid hmk
      have HX := Lib.hid hx
      have H := Lib.hid (H47.out x)
      clear hcells hx hmk
      by_cases he : x ∈ b
      · have HN2 : Hid (∀ y ∈ a.take (m + 1), y ∈ b) := take_all HX.out HN.out he
        rw [decide_eq_true he] at H
        clear he
        go_wp2_with fail
        refine H.out.mono ?_
        rintro e w1 ⟨rfl, rfl⟩
        go_wp2_with fail
        go_roundg j
        case measure => omega
        case rel => exact ⟨m + 1, by have := HM.out; omega, by go_num, HN2.out, rfl⟩
      · have HD : Hid (decide (∀ x ∈ a, x ∈ b) = false) := decide_eq_false fun h => he (h x (List.mem_of_getElem? HX.out))
        rw [decide_eq_false he] at H
        clear he
        go_wp2_with fail
        refine H.out.mono ?_
        rintro e w1 ⟨rfl, rfl⟩
        go_wp2_with fail
        go_ret
        exact ⟨by rw [HD.out] <;> rfl, rfl⟩

set_option maxRecDepth 100000 in
theorem within_any {w : World} {A B : Option Addr} {c d : Nat} {a b : List (List UInt8)} (he : Env w) (ha : SL w A c a) (hb : SL w B d b) :
    Calls Tryz.prog 20 #[.slice A a.length c, .slice B b.length d] w (RetB w (.bool (decide (WithinL a b)))) := by
  obtain ⟨W0, hW0⟩ : ∃ W0, W0 = w.alloc (.cells #[.slice B b.length d] 22) := ⟨_, rfl⟩
  have hb0 : Below w.heap.size w W0 := by rw [hW0]; exact (Below.refl _ _).alloc (Nat.le_refl _) _
  have k0 : W0.cell? ⟨w.heap.size, 0, none⟩ = some (.slice B b.length d) := by rw [hW0]; simp
  have hg0 : w.heap.size < W0.heap.size := by rw [hW0]; simp
  have HE := Lib.hid (he.on hb0)
  have HA := Lib.hid (ha.on hb0)
  have HB := Lib.hid (hb.on hb0)
  have B0 := Lib.hid hb0
  have K0 := Lib.hid k0
  have HW0 := Lib.hid hW0
  have H16 := Lib.hid (ownRight_any HE.out HA.out)
  clear he ha hb hb0 hW0 k0
  by_cases hoa : ¬ OwnL a
  · rw [decide_eq_false hoa] at H16
    have HD : Hid (decide (WithinL a b) = false) := decide_eq_false fun h => hoa h.1
    clear hoa
    go_enter Tryz.func20, Tryz.ntmps20
    go_wp2_with fail
    rw [← HW0.out]
    refine H16.out.mono ?_
    rintro e w1 ⟨rfl, hb1⟩
    have B1 : Hid (Below w.heap.size w w1) := B0.out.trans (hb1.mono B0.out.size)
    clear hb1
    go_wp2_with fail
    go_ret
    exact ⟨by rw [HD.out] <;> rfl, B1.out⟩
  replace hoa := Decidable.not_not.1 hoa
  rw [decide_eq_true hoa] at H16
  have OA := Lib.hid hoa
  clear hoa
  go_enter Tryz.func20, Tryz.ntmps20
  go_wp2_with fail
  rw [← HW0.out]
  refine H16.out.mono ?_
  rintro e w1 ⟨rfl, hb1⟩
  have B1 : Hid (Below w.heap.size w w1) := B0.out.trans (hb1.mono B0.out.size)
  have E1 := Lib.hid (HE.out.on hb1)
  have A1 := Lib.hid (HA.out.on hb1)
  have C1 := Lib.hid (HB.out.on hb1)
  have k1 : w1.cell? ⟨w.heap.size, 0, none⟩ = some (.slice B b.length d) := (hb1.cell (p := ⟨w.heap.size, 0, none⟩) hg0).trans K0.out
  have hg1 : w.heap.size < w1.heap.size := Nat.lt_of_lt_of_le hg0 hb1.size
  have H16b := Lib.hid (ownRight_any E1.out C1.out)
  clear hb1 H16
  by_cases hob : ¬ OwnL b
  · rw [decide_eq_false hob] at H16b
    have HD : Hid (decide (WithinL a b) = false) := decide_eq_false fun h => hob h.2.1
    clear hob
    go_wp2_with fail
    refine H16b.out.mono ?_
    rintro e w2 ⟨rfl, hb2⟩
    have B2 : Hid (Below w.heap.size w w2) := B1.out.trans (hb2.mono B1.out.size)
    clear hb2
    go_wp2_with fail
    go_ret
    exact ⟨by rw [HD.out] <;> rfl, B2.out⟩
  replace hob := Decidable.not_not.1 hob
  rw [decide_eq_true hob] at H16b
  have OB := Lib.hid hob
  clear hob
  go_wp2_with fail
  refine H16b.out.mono ?_
  rintro e w2 ⟨rfl, hb2⟩
  have B2 : Hid (Below w.heap.size w w2) := B1.out.trans (hb2.mono B1.out.size)
  have k2 : w2.cell? ⟨w.heap.size, 0, none⟩ = some (.slice B b.length d) := (hb2.cell (p := ⟨w.heap.size, 0, none⟩) hg1).trans k1
  have A2 := A1.out.on hb2
  have C2 := C1.out.on hb2
  have H46 := Lib.hid (everyS_any (c := c) A2.strs A2.len k2 C2.strs C2.len)
  have HD : Hid (decide (WithinL a b) = decide (∀ x ∈ a, x ∈ b)) := decide_eq_decide.2 ⟨fun h => h.2.2, fun h => ⟨OA.out, OB.out, h⟩⟩
  rw [← HD.out] at H46
  clear hb2 H16b A2 C2 k1
  go_wp2_with fail
  refine H46.out.mono ?_
  rintro e w3 ⟨rfl, rfl⟩
  go_wp2_with fail
  go_ret
  exact ⟨rfl, B2.out⟩

/-- Does an entry's category flow? -/
def FlowE (a b : List Ent) (l : List (List UInt8)) (s : List UInt8) : Prop := s ∈ l ∨ lev a s ≤ lev b s
instance (a b : List Ent) (l : List (List UInt8)) (s : List UInt8) : Decidable (FlowE a b l s) := by unfold FlowE; infer_instance

/-- The three boxes that a function of Flows holds. -/
structure Boxes (w : World) (gl ga gb : Nat) (L A B : Option Addr) (cl ca cb : Nat) (l : List (List UInt8)) (a b : List Ent) : Prop where
  kl : w.cell? ⟨gl, 0, none⟩ = some (.slice L l.length cl)
  ka : w.cell? ⟨ga, 0, none⟩ = some (.slice A a.length ca)
  kb : w.cell? ⟨gb, 0, none⟩ = some (.slice B b.length cb)
  sl : SL w L cl l
  la : Lab w A ca a
  lb : Lab w B cb b
theorem Boxes.on {w w' : World} {gl ga gb : Nat} {L A B : Option Addr} {cl ca cb : Nat} {l : List (List UInt8)} {a b : List Ent} (h : Boxes w gl ga gb L A B cl ca cb l a b) (hb : Below w.heap.size w w') : Boxes w' gl ga gb L A B cl ca cb l a b :=
  ⟨(hb.cell (World.block_lt_of_cell? w _ h.kl)).trans h.kl, (hb.cell (World.block_lt_of_cell? w _ h.ka)).trans h.ka, (hb.cell (World.block_lt_of_cell? w _ h.kb)).trans h.kb, h.sl.on hb, h.la.on hb, h.lb.on hb⟩

set_option maxRecDepth 100000 in
set_option maxHeartbeats 1000000 in
theorem flows1_any {w : World} {gl ga gb : Nat} {L A B : Option Addr} {cl ca cb : Nat} {l : List (List UInt8)} {a b : List Ent} {s : List UInt8} {n : Int} (h : Boxes w gl ga gb L A B cl ca cb l a b) (hna : a.length ≤ 1000000) (hnb : b.length ≤ 1000000) :
    Calls Tryz.prog 54 #[.agg #[.string (str s), .int .i64 n], .pointer (some ⟨gl, 0, none⟩), .pointer (some ⟨ga, 0, none⟩), .pointer (some ⟨gb, 0, none⟩)] w (RetB w (.bool (decide (FlowE a b l s)))) := by
  obtain ⟨W0, hW0⟩ : ∃ W0, W0 = w.alloc (.cells #[.string (str s), .int .i64 n] 52) := ⟨_, rfl⟩
  have hb0 : Below w.heap.size w W0 := by rw [hW0]; exact (Below.refl _ _).alloc (Nat.le_refl _) _
  have k0 : W0.cell? ⟨w.heap.size, 0, none⟩ = some (.string (str s)) := by rw [hW0]; simp
  have hg0 : w.heap.size < W0.heap.size := by rw [hW0]; simp
  have h0 := h.on hb0
  have kl := h0.kl
  have ka := h0.ka
  have kb := h0.kb
  have hgl := World.block_lt_of_cell? W0 _ kl
  have hga := World.block_lt_of_cell? W0 _ ka
  have hgb := World.block_lt_of_cell? W0 _ kb
  have H18 : Hid (∀ W, Below W0.heap.size W0 W → Calls Tryz.prog 18 #[.slice L l.length cl, .string (str s)] W fun e w' => e = .returned (.bool (decide (s ∈ l))) ∧ Below W0.heap.size W0 w') := fun W hW =>
    (has_any (h0.on hW).sl.strs h0.sl.len).mono fun e w' h2 => ⟨h2.1, by rw [← h2.2]; exact hW⟩
  obtain ⟨ya, hya⟩ : ∃ y, y = lev a s := ⟨_, rfl⟩
  obtain ⟨yb, hyb⟩ : ∃ y, y = lev b s := ⟨_, rfl⟩
  have H55a : Hid (∀ W, Below W0.heap.size W0 W → Calls Tryz.prog 55 #[.slice A a.length ca, .string (str s)] W fun e w' => e = .returned (.int .i64 ya) ∧ Below W0.heap.size W0 w') := fun W hW => by
    rw [hya]
    exact (level_any (h0.on hW).la.ents hna).mono fun e w' h2 => ⟨h2.1, hW.trans (h2.2.mono hW.size)⟩
  have H55b : Hid (∀ W, Below W0.heap.size W0 W → Calls Tryz.prog 55 #[.slice B b.length cb, .string (str s)] W fun e w' => e = .returned (.int .i64 yb) ∧ Below W0.heap.size W0 w') := fun W hW => by
    rw [hyb]
    exact (level_any (h0.on hW).lb.ents hnb).mono fun e w' h2 => ⟨h2.1, hW.trans (h2.2.mono hW.size)⟩
  have HB0 := Lib.hid hb0
  have HW0 := Lib.hid hW0
  by_cases hin : s ∈ l
  · have HD : Hid (decide (FlowE a b l s) = true) := decide_eq_true (.inl hin)
    have HQ : Hid (∀ q, Calls Tryz.prog 18 #[.slice L l.length cl, .string (str s)] (W0.drewN q) fun e w' => e = .returned (.bool true) ∧ w' = W0.drewN q) := fun q =>
      (has_any (h0.on (below_drewN (Below.refl _ _) q)).sl.strs h0.sl.len).mono fun e w' h2 => ⟨by rw [h2.1, decide_eq_true hin], h2.2.symm⟩
    clear h h0 hya hyb hin hW0 hb0 H55a H55b H18 hga hgb hgl
    go_enter Tryz.func54, Tryz.ntmps54
    go_wp2_with fail
    rw [← HW0.out]
    go_quiet (first | (go_at_call 18; refine Calls.quiet_of_same (HQ.out _)))
    go_wp2_with fail
    go_ret
    exact ⟨by rw [HD.out] <;> rfl, below_drewN HB0.out _⟩
  · rw [decide_eq_false hin] at H18
    obtain ⟨y, hy⟩ : ∃ y, y = decide (ya ≤ yb) := ⟨_, rfl⟩
    have HD : Hid (decide (FlowE a b l s) = decide (ya ≤ yb)) := decide_eq_decide.2 ⟨fun h => h.elim (fun h => absurd h hin) (fun h => by rw [hya, hyb]; exact h), fun h => .inr (by rw [← hya, ← hyb]; exact h)⟩
    clear h h0 hya hyb hin hW0 hb0 hy
    go_enter Tryz.func54, Tryz.ntmps54
    go_wp2_with fail
    rw [← HW0.out]
    go_region_held3 (fun W => W.cell? ⟨gl, 0, none⟩ = some (.slice L l.length cl) ∧ W.cell? ⟨ga, 0, none⟩ = some (.slice A a.length ca) ∧ W.cell? ⟨gb, 0, none⟩ = some (.slice B b.length cb) ∧ W.cell? ⟨w.heap.size, 0, none⟩ = some (.string (str s)))
      (first
        | go_keep
        | exact ⟨(hbC.cell (p := ⟨gl, 0, none⟩) hgl).trans kl, (hbC.cell (p := ⟨ga, 0, none⟩) hga).trans ka, (hbC.cell (p := ⟨gb, 0, none⟩) hgb).trans kb, (hbC.cell (p := ⟨w.heap.size, 0, none⟩) hg0).trans k0⟩
        | exact ⟨(hbB.cell (p := ⟨gl, 0, none⟩) hgl).trans kl, (hbB.cell (p := ⟨ga, 0, none⟩) hga).trans ka, (hbB.cell (p := ⟨gb, 0, none⟩) hgb).trans kb, (hbB.cell (p := ⟨w.heap.size, 0, none⟩) hg0).trans k0⟩
        | exact ⟨(hbA.cell (p := ⟨gl, 0, none⟩) hgl).trans kl, (hbA.cell (p := ⟨ga, 0, none⟩) hga).trans ka, (hbA.cell (p := ⟨gb, 0, none⟩) hgb).trans kb, (hbA.cell (p := ⟨w.heap.size, 0, none⟩) hg0).trans k0⟩)
      (first
        | (go_at_call 55; refine (H55b.out _ hbB).mono ?_; rintro e W3 ⟨rfl, hbC⟩)
        | (go_at_call 55; refine (H55a.out _ hbA).mono ?_; rintro e W2 ⟨rfl, hbB⟩)
        | (go_at_call 18; refine (H18.out _ (Below.refl _ _).drew).mono ?_; rintro e W1 ⟨rfl, hbA⟩))
    have B1 : Hid (Below w.heap.size w W3) := HB0.out.trans (hbC.mono HB0.out.size)
    clear hbA hbB hbC
    go_wp2_with fail
    go_ret
    exact ⟨by rw [HD.out] <;> rfl, B1.out⟩

def EvERel (w : World) (L : List Ent) (P : List UInt8 → Prop) (k : Nat) (i : Value) (wr : World) : Prop :=
  ∃ m, m + k = L.length ∧ i = .int .i64 (m : Int) ∧ (∀ e ∈ L.take m, P e.1) ∧ Below w.heap.size w wr

set_option maxRecDepth 100000 in
theorem everyE_any {w : World} {gl ga gb : Nat} {K A B : Option Addr} {cl ca cb : Nat} {l : List (List UInt8)} {a b : List Ent} (h : Boxes w gl ga gb K A B cl ca cb l a b) (hna : a.length ≤ 1000000) (hnb : b.length ≤ 1000000)
    {C : Option Addr} {c : Nat} {L : List Ent} (hL : Ents w w.heap.size C L) (hn : L.length ≤ 1000000) :
    Calls Tryz.prog 52 #[.slice C L.length c, .func (.func 54) #[] #[.pointer (some ⟨gl, 0, none⟩), .pointer (some ⟨ga, 0, none⟩), .pointer (some ⟨gb, 0, none⟩)]] w (RetB w (.bool (decide (∀ e ∈ L, FlowE a b l e.1)))) := by
  have HL := Lib.hid hL
  have HB := Lib.hid h
  clear hL h
  go_enter Tryz.func52, Tryz.ntmps52
  go_wp2_with fail
  go_loopg [9] L.length (fun k i wr => EvERel w L (FlowE a b l) k i wr)
  case atStart => exact ⟨0, by simp, rfl, by simp, Below.refl _ _⟩
  case round =>
    obtain ⟨m, hmk, hi, hno, hb⟩ := hrel
    subst hi
    have HN := Lib.hid hno
    have HW := Lib.hid hb
    have hsz := hb.size
    clear hno
    cases gk with
    | zero =>
      have hge : L.length ≤ m := by omega
      have HD : Hid (decide (∀ e ∈ L, FlowE a b l e.1) = true) := decide_eq_true (by
        have := HN.out
        rwa [List.take_of_length_le hge] at this)
      clear hb
      go_wp2_with fail
      go_ret
      exact ⟨by rw [HD.out] <;> rfl, HW.out⟩
    | succ j =>
      have hm : m < L.length := by omega
      obtain ⟨⟨t, n⟩, hx⟩ : ∃ x, L[m]? = some x := ⟨_, List.getElem?_eq_getElem hm⟩
      obtain ⟨g, o, rfl, hlt, hcells⟩ := (HL.out.below hb) (by omega)
      obtain ⟨c1, c2⟩ := hcells m t n hx
      have HM := Lib.hid hmk
      have HX := Lib.hid hx
      obtain ⟨W0, hW0⟩ : ∃ W0, W0 = wr.alloc (.cells #[.string (str t), .int .i64 n] 52) := ⟨_, rfl⟩
      have hB0 : Below wr.heap.size wr W0 := by rw [hW0]; exact (Below.refl _ _).alloc (Nat.le_refl _) _
      have hB03 : Below w.heap.size w W0 := HW.out.trans (hB0.mono hsz)
      have H54 := Lib.hid (flows1_any (s := t) (n := n) (HB.out.on hB03) hna hnb)
      have HB03 := Lib.hid hB03
      have HW0 := Lib.hid hW0
      clear hcells hx hmk hb hB0 hB03 hW0
      by_cases hf : FlowE a b l t
      · have HN2 : Hid (∀ e ∈ L.take (m + 1), FlowE a b l e.1) := take_all (P := fun e : Ent => FlowE a b l e.1) HX.out HN.out hf
        rw [decide_eq_true hf] at H54
        clear hf
        go_wp2_with fail
        rw [← HW0.out]
        refine H54.out.mono ?_
        rintro e w1 ⟨rfl, hb1⟩
        have B1 : Hid (Below w.heap.size w w1) := HB03.out.trans (hb1.mono HB03.out.size)
        clear hb1 H54 c1 c2
        go_wp2_with fail
        go_roundg j
        case measure => omega
        case rel => exact ⟨m + 1, by have := HM.out; omega, by go_num, HN2.out, B1.out⟩
      · have HD : Hid (decide (∀ e ∈ L, FlowE a b l e.1) = false) := decide_eq_false fun h => hf (h (t, n) (List.mem_of_getElem? HX.out))
        rw [decide_eq_false hf] at H54
        clear hf
        go_wp2_with fail
        rw [← HW0.out]
        refine H54.out.mono ?_
        rintro e w1 ⟨rfl, hb1⟩
        have B1 : Hid (Below w.heap.size w w1) := HB03.out.trans (hb1.mono HB03.out.size)
        clear hb1 H54 c1 c2
        go_wp2_with fail
        go_ret
        exact ⟨by rw [HD.out] <;> rfl, B1.out⟩
end Go.Proofs.YtglidfmgechneaaGreatDoor
