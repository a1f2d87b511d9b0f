/- append of strings; slices.Grow of nothing; slices.Concat of two lists of strings; slices.Clone. -/
import Derived.Test.YtglidfmgechneaaGreatDoorIt
import Derived.Test.YtglidfmgechneaaGreatDoorOa
namespace Go.Proofs.YtglidfmgechneaaGreatDoor
open Go.RowKit Go.Shelf

theorem strCells_get {l : List (List UInt8)} {j : Nat} {u : Value} (h : (strCellsOf l)[j]? = some u) : ∃ x, l[j]? = some x ∧ u = .string (str x) := by
  simp [strCellsOf] at h
  obtain ⟨x, h1, h2⟩ := h
  exact ⟨x, h1, h2.symm⟩
theorem strCells_one (l : List (List UInt8)) : ∀ u ∈ strCellsOf l, u.oneCell' = true := by
  intro u hu
  simp [strCellsOf] at hu
  obtain ⟨x, _, rfl⟩ := hu
  rfl
theorem Strs.cells {w : World} {B : Nat} {a : Addr} {l : List (List UInt8)} (h : Strs w B (some a) l) : ∀ j u, (strCellsOf l)[j]? = some u → w.cell? (a.add j) = some u := by
  intro j u hu
  obtain ⟨x, hk, rfl⟩ := strCells_get hu
  have hp : 0 < l.length := by
    have := (List.getElem?_eq_some_iff.1 hk).1
    omega
  obtain ⟨b, o, hA, _, hc⟩ := h hp
  injection hA with hA
  subst hA
  rw [Go.WideShapes.add_plain]
  exact hc j x hk

/-- append(out, l...), out a row of strings of the call's own, l whatever slice of strings (nil too). -/
theorem wpList_append_strs {w : World} {ops : Array Oper} {rest : List Oper} {o : Oper} {a : Act} {Q : Exit → Act → World → Prop} (hgd : o.guard = none) (s x : Operand)
    (ho : o.op = .call { callee := .builtin .append, args := #[s, x], argTypes := #[22, 22] }) (base : Nat) (v : Value) (ys : List (List UInt8)) (hs : a.eval s = v)
    (hown : StrRow w base v ys) (B : Nat) (A : Option Addr) (c : Nat) (xs : List (List UInt8)) (hxe : a.eval x = .slice A xs.length c) (hx : Strs w B A xs) (hc : A = none → c = 0)
    (hn : ys.length + xs.length ≤ 1000001) (hbase : base ≤ w.heap.size)
    (h : ∀ v' w', StrRow w' base v' (ys ++ xs) → Below base w w' → wpList Tryz.prog ops Q rest (a.put o.dst v') w') : wpList Tryz.prog ops Q (o :: rest) a w := by
  obtain ⟨i0, hi, hz0, hz1, hz2⟩ := info_parts Tryz.info9
  cases A with
  | none =>
    have hx0 := hx.none
    subst hx0
    rw [hc rfl] at hxe
    exact wpList_append_own_none hgd s x 22 ho base 9 i0 1 Tryz.underlying22 hi v ys.length _ hs hown hxe (h v w (by simpa using hown) (Below.refl _ _))
  | some ad =>
    refine wpList_append_own w hgd s x 22 ho base 9 i0 _ 1 16 Tryz.underlying22 hi hz0 hz1 hz2 rfl (by decide) v ys.length _ hs hown ad xs.length c (strCellsOf xs) hxe (by simp [strCellsOf]) hx.cells (strCells_one xs) (by unfold maxLen; omega) (by omega) hbase ?_
    intro v' w' h1 h2 _
    refine h v' w' (by unfold StrRow strCellsOf; rw [List.map_append, List.length_append]; exact h1) ((Below.refl base w).grown h2 hbase fun k e => ?_)
    exact (World.ownsRow.lt hown k e).1

theorem growS_any (n : Nat) (hn : n ≤ 1000001) (w : World) : Calls Tryz.prog 68 #[.slice none 0 0, .int .i64 (n : Int)] w fun e w' => ∃ v, e = .returned v ∧ StrRow w' w.heap.size v [] ∧ Below w.heap.size w w' := by
  by_cases h0 : n = 0
  · subst h0
    refine Calls.mono (show Calls Tryz.prog 68 _ _ _ from Any8.slices_Grow_room Tryz.growS none 0 0 0 w (Nat.le_refl _) (by omega) (by omega) (Nat.le_refl _)) ?_
    rintro e w' ⟨rfl, rfl⟩
    exact ⟨_, rfl, World.ownsRow_nil _ _ _ _, Below.refl _ _⟩
  · obtain ⟨i0, hi, hz0, hz1, hz2⟩ := info_parts Tryz.info9
    refine Calls.mono (show Calls Tryz.prog 68 _ _ _ from Any8.slices_Grow_grow Tryz.growS i0 _ hi hz0 (by rw [hz1]; omega) none 0 0 n [] w (Nat.le_refl _) (by omega) (by rw [hz2]; omega) (by omega) (by simp) (fun _ => rfl) (fun a h => by cases h)) ?_
    rintro e w' ⟨rfl, rfl⟩
    refine ⟨_, rfl, ?_, ((Below.refl _ _).drew).alloc (Nat.le_refl _) _⟩
    refine World.ownsRow_made w.drew _ _ (Nat.le_refl _) (grownCap_le_maxLen w _ _ _ (by unfold maxLen; omega)) ?_
    have hge := grownCap_ge w (0 + n) 0 9
    rw [Nat.zero_add] at hge
    have e33 : Tryz.growS_ren.t 25 = 9 := rfl
    simp only [e33, Array.size_append, size_zeroCells, List.size_toArray, List.length_nil, Value.cells]
    simp
    omega

/-- What of twoS labels has been taken after m rounds. -/
def twoS (l1 l2 : List (List UInt8)) : Nat → List (List UInt8)
  | 0 => []
  | 1 => l1
  | _ => l1 ++ l2

def CcSRel (w : World) (l1 l2 : List (List UInt8)) (k : Nat) (v i : Value) (wr : World) : Prop :=
  ∃ m, m + k = 2 ∧ i = .int .i64 (m : Int) ∧ v = .int .i64 ((twoS l1 l2 m).length : Int) ∧ w = wr
def CcSRel2 (w : World) (l1 l2 : List (List UInt8)) (k : Nat) (v i : Value) (wr : World) : Prop :=
  ∃ m, m + k = 2 ∧ i = .int .i64 (m : Int) ∧ StrRow wr w.heap.size v (twoS l1 l2 m) ∧ Below w.heap.size w wr

/-- It returns a new row of strings. -/
def RetRowS (w : World) (l : List (List UInt8)) (e : Ending) (w' : World) : Prop := ∃ v, e = .returned v ∧ StrRow w' w.heap.size v l ∧ Below w.heap.size w w'

set_option maxRecDepth 100000 in
theorem concatS_any {w : World} {b o : Nat} {A1 A2 : Option Addr} {c1 c2 : Nat} {l1 l2 : List (List UInt8)} (k1 : w.cell? ⟨b, o, none⟩ = some (.slice A1 l1.length c1)) (k2 : w.cell? ⟨b, o + 1, none⟩ = some (.slice A2 l2.length c2)) (hb : b < w.heap.size)
    (h1 : Strs w w.heap.size A1 l1) (h2 : Strs w w.heap.size A2 l2) (n1 : A1 = none → c1 = 0) (n2 : A2 = none → c2 = 0) (hn : l1.length + l2.length ≤ 1000000) :
    Calls Tryz.prog 39 #[.slice (some ⟨b, o, none⟩) 2 2] w (RetRowS w (l1 ++ l2)) := by
  have H1 := Lib.hid h1
  have H2 := Lib.hid h2
  have N1 := Lib.hid n1
  have N2 := Lib.hid n2
  clear h1 h2 n1 n2
  go_enter Tryz.func39, Tryz.ntmps39
  go_wp2_with fail
  go_loopg [3, 11] 2 (fun k v i wr => CcSRel w l1 l2 k v i wr)
  case atStart => exact ⟨0, rfl, rfl, rfl, rfl⟩
  case round =>
    obtain ⟨m, hmk, hi, hv, hw⟩ := hrel
    subst hi hv hw
    cases gk with
    | succ j =>
      have hm : m = 0 ∨ m = 1 := by omega
      have HM := Lib.hid hmk
      rcases hm with rfl | rfl
      · have e0 : (twoS l1 l2 0).length = 0 := rfl
        have e1 : Hid ((twoS l1 l2 1).length = l1.length) := rfl
        rw [e0]
        clear hmk
        go_wp2_with fail
        go_roundg j
        case measure => omega
        case rel => exact ⟨1, by have := HM.out; omega, by go_num, by rw [e1.out], rfl⟩
      · have e0 : (twoS l1 l2 1).length = l1.length := rfl
        have e1 : Hid ((twoS l1 l2 2).length = l1.length + l2.length) := by unfold Hid twoS; simp
        rw [e0]
        clear hmk
        go_wp2_with fail
        go_roundg j
        case measure => omega
        case rel => exact ⟨2, by have := HM.out; omega, by go_num, by rw [e1.out]; go_num, rfl⟩
    | zero =>
      have hm2 : m = 2 := by omega
      subst hm2
      have e0 : (twoS l1 l2 2).length = l1.length + l2.length := by unfold twoS; simp
      rw [e0]
      have HG := Lib.hid (growS_any (l1.length + l2.length) (by omega) w)
      clear hmk
      go_wp2_with fail
      refine HG.out.mono ?_
      rintro e w1 ⟨v1, rfl, hr1, hb1⟩
      have B1 := Lib.hid hb1
      have R1 := Lib.hid hr1
      clear hb1 hr1
      go_wp2_with fail
      go_loopg [6, 27] 2 (fun k v i wr => CcSRel2 w l1 l2 k v i wr)
      case atStart => exact ⟨0, rfl, rfl, R1.out, B1.out⟩
      case round =>
        obtain ⟨m, hmk, hi, hr, hbw⟩ := hrel
        subst hi
        have BW := Lib.hid hbw
        have RW := Lib.hid hr
        cases gk with
        | zero =>
          have hm2 : m = 2 := by omega
          subst hm2
          clear hr hbw
          go_wp2_with fail
          go_ret
          exact ⟨_, rfl, RW.out, BW.out⟩
        | succ j =>
          have hm : m = 0 ∨ m = 1 := by omega
          have HM := Lib.hid hmk
          have hsz := hbw.size
          rcases hm with rfl | rfl
          · have q1 := (hbw.cell (p := ⟨b, o, none⟩) hb).trans k1
            have hle : (twoS l1 l2 0).length + l1.length ≤ 1000001 := by simp [twoS]; omega
            have HE := Lib.hid (H1.out.below hbw)
            clear hmk hr hbw
            go_wp2_with (first
              | (at_builtin; refine wpList_append_strs rfl _ _ rfl w.heap.size _ _ rfl RW.out w.heap.size A1 c1 l1 rfl HE.out N1.out hle hsz ?_))
            intro v' w2 hr2 hb2
            have B2 := Lib.hid (BW.out.trans hb2)
            have R2 := Lib.hid hr2
            clear hr2 hb2
            go_wp2_with fail
            go_roundg j
            case measure => omega
            case rel => exact ⟨1, by have := HM.out; omega, by go_num, R2.out, B2.out⟩
          · have q1 := (hbw.cell (p := ⟨b, o + 1, none⟩) hb).trans k2
            have hle : (twoS l1 l2 1).length + l2.length ≤ 1000001 := by simp [twoS]; omega
            have HE := Lib.hid (H2.out.below hbw)
            clear hmk hr hbw
            go_wp2_with (first
              | (at_builtin; refine wpList_append_strs rfl _ _ rfl w.heap.size _ _ rfl RW.out w.heap.size A2 c2 l2 rfl HE.out N2.out hle hsz ?_))
            intro v' w2 hr2 hb2
            have B2 := Lib.hid (BW.out.trans hb2)
            have R2 := Lib.hid hr2
            clear hr2 hb2
            go_wp2_with fail
            go_roundg j
            case measure => omega
            case rel => exact ⟨2, by have := HM.out; omega, by go_num, R2.out, B2.out⟩

set_option maxRecDepth 100000 in
theorem cloneS_any {w : World} {A : Option Addr} {c : Nat} {l : List (List UInt8)} (hl : Strs w w.heap.size A l) (hc : A = none → c = 0) (hn : l.length ≤ 1000000) :
    Calls Tryz.prog 36 #[.slice A l.length c] w (RetRowS w l) := by
  cases A with
  | none =>
    have hl0 := hl.none
    subst hl0
    have hc0 := hc rfl
    subst hc0
    clear hc hl
    have hq : ∀ w : World, (binOp .eql 22 (.slice none 0 0) (.slice none 0 0)).run Tryz.prog w = .ok (.bool true) w := fun _ => rfl
    go_enter Tryz.func36, Tryz.ntmps36
    go_wp2_with fail
    go_ret
    exact ⟨_, rfl, World.ownsRow_nil _ _ _ _, Below.refl _ _⟩
  | some a =>
    have HL := Lib.hid hl
    clear hl hc
    have hq : ∀ w : World, (binOp .eql 22 (.slice (some a) l.length c) (.slice none 0 0)).run Tryz.prog w = .ok (.bool false) w := fun _ => rfl
    have hle : ([] : List (List UInt8)).length + l.length ≤ 1000001 := by simp; omega
    have hr0 : Hid (StrRow (w.alloc (.cells #[] 9)) w.heap.size (.slice (some ⟨w.heap.size, 0, none⟩) 0 0) []) := World.ownsRow_lit (base := w.heap.size) w #[] 0 (Nat.le_refl _) (by unfold maxLen; omega) rfl
    have hal : Hid (Below w.heap.size w (w.alloc (.cells #[] 9))) := (Below.refl _ _).alloc (Nat.le_refl _) _
    have hsz : w.heap.size ≤ (w.alloc (.cells #[] 9)).heap.size := by simp
    go_enter Tryz.func36, Tryz.ntmps36
    go_wp2_with (first
      | (at_builtin; refine wpList_append_strs rfl _ _ rfl w.heap.size _ [] rfl hr0.out w.heap.size (some a) c l rfl (HL.out.below hal.out) (fun h => by cases h) hle hsz ?_))
    intro v' w1 hown hb1
    have B1 : Hid (Below w.heap.size w w1) := hal.out.trans hb1
    have R1 := Lib.hid hown
    clear hown hb1
    go_wp2_with fail
    go_ret
    exact ⟨_, rfl, R1.out, B1.out⟩
end Go.Proofs.YtglidfmgechneaaGreatDoor
