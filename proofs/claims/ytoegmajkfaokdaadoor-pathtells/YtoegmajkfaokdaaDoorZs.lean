/- Slices of ints as they lie; rows of ints of the call's own; append; slices.Equal, Grow, Concat, Clone at ints. -/
import Derived.Test.YtoegmajkfaokdaaDoorIt
import Derived.Test.YtoegmajkfaokdaaDoorStr
import Derived.Laws.AppendOwnNone
namespace Go.Proofs.YtoegmajkfaokdaaDoor
open Go.RowKit Go.Shelf

/-- A slice of ints, as it lies below block B. -/
def Zs (w : World) (B : Nat) (A : Option Addr) (l : List Int) : Prop :=
  0 < l.length → ∃ b o, A = some ⟨b, o, none⟩ ∧ b < B ∧ ∀ (k : Nat) (x : Int), l[k]? = some x → w.cell? ⟨b, o + k, none⟩ = some (.int .i64 x)
theorem Zs.below {w w' : World} {B : Nat} {A : Option Addr} {l : List Int} (h : Zs w B A l) (hb : Below B w w') : Zs w' B A l := fun hp => by
  obtain ⟨b, o, hA, hlt, hc⟩ := h hp
  exact ⟨b, o, hA, hlt, fun k c hk => (hb.cell (p := ⟨b, o + k, none⟩) hlt).trans (hc k c hk)⟩
theorem Zs.more {w : World} {B B' : Nat} {A : Option Addr} {l : List Int} (h : Zs w B A l) (hB : B ≤ B') : Zs w B' A l := fun hp => by
  obtain ⟨b, o, hA, hlt, hc⟩ := h hp
  exact ⟨b, o, hA, by omega, hc⟩

/-- Strings as cells. -/
def zCellsOf (R : List Int) : List Value := R.map fun x => Value.int .i64 x
/-- A row of ints of its own, from block B on. -/
def ZRow (w : World) (B : Nat) (v : Value) (R : List Int) : Prop := w.ownsRow B 3 1 v R.length (zCellsOf R)
theorem ZRow.below {w w' : World} {B : Nat} {v : Value} {R : List Int} (h : ZRow w B v R) (hb : Below w.heap.size w w') : ZRow w' B v R :=
  World.ownsRow.kept (row := Option.none) h (grown_of_below hb) (by cases v.ownBlock <;> simp)
theorem ZRow.slice {w : World} {B : Nat} {v : Value} {R : List Int} (h : ZRow w B v R) : ∃ A c, v = .slice A R.length c := by
  have h0 : w.ownsRow B 3 1 v R.length (zCellsOf R) := h
  rcases h0.2 with ⟨rfl, he⟩ | ⟨g, cap, cur, rfl, _⟩
  · exact ⟨none, 0, by rw [he]⟩
  · exact ⟨_, _, rfl⟩
theorem ZRow.zs {w : World} {B : Nat} {v : Value} {R : List Int} (h : ZRow w B v R) : ∃ A c, v = .slice A R.length c ∧ Zs w w.heap.size A R := by
  have h0 : w.ownsRow B 3 1 v R.length (zCellsOf R) := h
  rcases h0.2 with ⟨rfl, he⟩ | ⟨g, cap, cur, rfl, hb, hh, hcc⟩
  · exact ⟨none, 0, by rw [he], fun h => by omega⟩
  · refine ⟨_, cap, rfl, fun _ => ⟨g, 0, rfl, (h0.lt g rfl).2, fun k x hk => ?_⟩⟩
    have := h0.cells (g := g) rfl k (.int .i64 x) (by simp [zCellsOf, hk])
    rwa [Go.WideShapes.add_plain] at this

theorem Tryd.info3 : (Tryd.prog.info? 3).map (fun i => (i.zero, i.size, i.bytes)) = some (some (.int .i64 0), 1, 8) := by kernel_rfl

/-- append(right, s), right a row of ints of the call's own. -/
theorem wpList_append_z {w : World} {ops : Array Oper} {rest : List Oper} {o : Oper} {a : Act} {Q : Exit → Act → World → Prop} (hgd : o.guard = none) (s x : Operand)
    (ho : o.op = .call { callee := .builtin .append, args := #[s, x], argTypes := #[22, 22] }) (base : Nat) (v : Value) (R : List Int) (hs : a.eval s = v)
    (hown : ZRow w base v R) (ad : Addr) (u : Int) (hxe : a.eval x = .slice (some ad) 1 1) (hc : ∀ j y, [Value.int .i64 u][j]? = some y → w.cell? (ad.add j) = some y)
    (hn : R.length + 1 ≤ 1000001) (hbase : base ≤ w.heap.size)
    (h : ∀ v' w', ZRow w' base v' (R ++ [u]) → Below base w w' → wpList Tryd.prog ops Q rest (a.put o.dst v') w') : wpList Tryd.prog ops Q (o :: rest) a w := by
  obtain ⟨i0, hi, hz0, hz1, hz2⟩ := info_parts Tryd.info3
  refine wpList_append_own w hgd s x 22 ho base 3 i0 _ 1 8 Tryd.underlying22 hi hz0 hz1 hz2 rfl (by decide) v R.length _ hs hown ad 1 1 [.int .i64 u] hxe rfl hc (by simp [Value.oneCell']) (by unfold maxLen; omega) (by omega) hbase ?_
  intro v' w' h1 h2 _
  refine h v' w' (by unfold ZRow zCellsOf; rw [List.map_append, List.length_append]; exact h1) ((Below.refl base w).grown h2 hbase fun k e => ?_)
  exact (World.ownsRow.lt hown k e).1

theorem Zs.none {w : World} {B : Nat} {l : List Int} (h : Zs w B none l) : l = [] := by
  cases l with
  | nil => rfl
  | cons x r => obtain ⟨b, o, hA, _⟩ := h (by simp); cases hA
def EqZRel (w : World) (l l' : List Int) (k : Nat) (i : Value) (wr : World) : Prop :=
  ∃ m, m + k = l.length ∧ i = .int .i64 (m : Int) ∧ l.take m = l'.take m ∧ Below w.heap.size w wr

set_option maxRecDepth 100000 in
theorem equalZ_any {w : World} {A A' : Option Addr} {c c' : Nat} {l l' : List Int} (h : Zs w w.heap.size A l) (h' : Zs w w.heap.size A' l') (hn : l.length ≤ 1000000) :
    Calls Tryd.prog 44 #[.slice A l.length c, .slice A' l'.length c'] w (RetB w (.bool (decide (l = l')))) := by
  have HL := Lib.hid h
  have HL' := Lib.hid h'
  clear h h'
  by_cases hlen : l.length = l'.length
  · rw [← hlen]
    have HLEN := Lib.hid hlen
    clear hlen
    go_enter Tryd.func44, Tryd.ntmps44
    go_wp2_with fail
    go_loopg [13] l.length (fun k i wr => EqZRel w l l' k i wr)
    case atStart => exact ⟨0, by simp, rfl, by simp, Below.refl _ _⟩
    case round =>
      obtain ⟨m, hmk, hi, htk, hb⟩ := hrel
      subst hi
      have HB := Lib.hid hb
      have HT := Lib.hid htk
      cases gk with
      | zero =>
        have hge : l.length ≤ m := by omega
        have HD : Hid (decide (l = l') = true) := decide_eq_true (by
          have h1 := HT.out
          have h2 := HLEN.out
          rwa [List.take_of_length_le hge, List.take_of_length_le (by omega)] at h1)
        clear htk hb
        go_wp2_with fail
        go_ret
        exact ⟨by rw [HD.out] <;> rfl, HB.out⟩
      | succ j =>
        have hm : m < l.length := by omega
        have hm' : m < l'.length := by have := HLEN.out; omega
        obtain ⟨t, hx⟩ : ∃ x, l[m]? = some x := ⟨_, List.getElem?_eq_getElem hm⟩
        obtain ⟨t', hx'⟩ : ∃ x, l'[m]? = some x := ⟨_, List.getElem?_eq_getElem hm'⟩
        obtain ⟨b, o, rfl, hlt, hcells⟩ := (HL.out.below hb) (by omega)
        obtain ⟨b', o', rfl, hlt', hcells'⟩ := (HL'.out.below hb) (by omega)
        have c1 := hcells m t hx
        have c3 := hcells' m t' hx'
        have HM := Lib.hid hmk
        have HX := Lib.hid hx
        have HX' := Lib.hid hx'
        by_cases he : t = t'
        · have hq : (t == t') = true := by simpa using he
          have hq2 : (t != t') = false := by simpa using he
          have HN : Hid (l.take (m + 1) = l'.take (m + 1)) := by
            unfold Hid
            rw [List.take_add_one, List.take_add_one, HT.out, HX.out, HX'.out, he]
          clear hcells hcells' hx hx' hmk htk hb he hm'
          go_wp2_with fail
          go_region
          go_wp2_with fail
          go_roundg j
          case measure => omega
          case rel => exact ⟨m + 1, by have := HM.out; omega, by go_num, HN.out, HB.out.drew⟩
        · have hq : (t == t') = false := by simpa using he
          have hq2 : (t != t') = true := by simpa using he
          have HD : Hid (decide (l = l') = false) := decide_eq_false fun e => by
            have h1 := HX.out
            rw [e, HX'.out] at h1
            injection h1 with h1
            exact he h1.symm
          clear hcells hcells' hx hx' hmk htk hb he hm'
          go_wp2_with fail
          go_region
          go_wp2_with fail
          go_ret
          exact ⟨by rw [HD.out] <;> rfl, HB.out.drew⟩
  · have HD : Hid (decide (l = l') = false) := decide_eq_false fun e => hlen (by rw [e])
    have hne : ((l.length : Int) == (l'.length : Int)) = false := by simpa using (fun h => hlen (by omega))
    clear hlen
    go_enter Tryd.func44, Tryd.ntmps44
    go_wp2_with fail
    go_ret
    exact ⟨by rw [HD.out] <;> rfl, Below.refl _ _⟩
theorem zCells_get {l : List Int} {j : Nat} {u : Value} (h : (zCellsOf l)[j]? = some u) : ∃ x, l[j]? = some x ∧ u = .int .i64 x := by
  simp [zCellsOf] at h
  obtain ⟨x, h1, h2⟩ := h
  exact ⟨x, h1, h2.symm⟩
theorem zCells_one (l : List Int) : ∀ u ∈ zCellsOf l, u.oneCell' = true := by
  intro u hu
  simp [zCellsOf] at hu
  obtain ⟨x, _, rfl⟩ := hu
  rfl
theorem Zs.cells {w : World} {B : Nat} {a : Addr} {l : List Int} (h : Zs w B (some a) l) : ∀ j u, (zCellsOf l)[j]? = some u → w.cell? (a.add j) = some u := by
  intro j u hu
  obtain ⟨x, hk, rfl⟩ := zCells_get hu
  have hp : 0 < l.length := by
    have := (List.getElem?_eq_some_iff.1 hk).1
    omega
  obtain ⟨b, o, hA, _, hc⟩ := h hp
  injection hA with hA
  subst hA
  rw [Go.WideShapes.add_plain]
  exact hc j x hk

/-- append(out, l...), out a row of ints of the call's own, l whatever slice of ints (nil too). -/
theorem wpList_append_zs {w : World} {ops : Array Oper} {rest : List Oper} {o : Oper} {a : Act} {Q : Exit → Act → World → Prop} (hgd : o.guard = none) (s x : Operand)
    (ho : o.op = .call { callee := .builtin .append, args := #[s, x], argTypes := #[22, 22] }) (base : Nat) (v : Value) (ys : List Int) (hs : a.eval s = v)
    (hown : ZRow w base v ys) (B : Nat) (A : Option Addr) (c : Nat) (xs : List Int) (hxe : a.eval x = .slice A xs.length c) (hx : Zs w B A xs) (hc : A = none → c = 0)
    (hn : ys.length + xs.length ≤ 1000001) (hbase : base ≤ w.heap.size)
    (h : ∀ v' w', ZRow w' base v' (ys ++ xs) → Below base w w' → wpList Tryd.prog ops Q rest (a.put o.dst v') w') : wpList Tryd.prog ops Q (o :: rest) a w := by
  obtain ⟨i0, hi, hz0, hz1, hz2⟩ := info_parts Tryd.info3
  cases A with
  | none =>
    have hx0 := hx.none
    subst hx0
    rw [hc rfl] at hxe
    exact wpList_append_own_none hgd s x 22 ho base 3 i0 1 Tryd.underlying22 hi v ys.length _ hs hown hxe (h v w (by simpa using hown) (Below.refl _ _))
  | some ad =>
    refine wpList_append_own w hgd s x 22 ho base 3 i0 _ 1 8 Tryd.underlying22 hi hz0 hz1 hz2 rfl (by decide) v ys.length _ hs hown ad xs.length c (zCellsOf xs) hxe (by simp [zCellsOf]) hx.cells (zCells_one xs) (by unfold maxLen; omega) (by omega) hbase ?_
    intro v' w' h1 h2 _
    refine h v' w' (by unfold ZRow zCellsOf; rw [List.map_append, List.length_append]; exact h1) ((Below.refl base w).grown h2 hbase fun k e => ?_)
    exact (World.ownsRow.lt hown k e).1

theorem growZ_any (n : Nat) (hn : n ≤ 1000001) (w : World) : Calls Tryd.prog 57 #[.slice none 0 0, .int .i64 (n : Int)] w fun e w' => ∃ v, e = .returned v ∧ ZRow w' w.heap.size v [] ∧ Below w.heap.size w w' := by
  by_cases h0 : n = 0
  · subst h0
    refine Calls.mono (show Calls Tryd.prog 57 _ _ _ from Any8.slices_Grow_room Tryd.growZ none 0 0 0 w (Nat.le_refl _) (by omega) (by omega) (Nat.le_refl _)) ?_
    rintro e w' ⟨rfl, rfl⟩
    exact ⟨_, rfl, World.ownsRow_nil _ _ _ _, Below.refl _ _⟩
  · obtain ⟨i0, hi, hz0, hz1, hz2⟩ := info_parts Tryd.info3
    refine Calls.mono (show Calls Tryd.prog 57 _ _ _ from Any8.slices_Grow_grow Tryd.growZ i0 _ hi hz0 (by rw [hz1]; omega) none 0 0 n [] w (Nat.le_refl _) (by omega) (by rw [hz2]; omega) (by omega) (by simp) (fun _ => rfl) (fun a h => by cases h)) ?_
    rintro e w' ⟨rfl, rfl⟩
    refine ⟨_, rfl, ?_, ((Below.refl _ _).drew).alloc (Nat.le_refl _) _⟩
    refine World.ownsRow_made w.drew _ _ (Nat.le_refl _) (grownCap_le_maxLen w _ _ _ (by unfold maxLen; omega)) ?_
    have hge := grownCap_ge w (0 + n) 0 3
    rw [Nat.zero_add] at hge
    have e33 : Tryd.growZ_ren.t 25 = 3 := rfl
    simp only [e33, Array.size_append, size_zeroCells, List.size_toArray, List.length_nil, Value.cells]
    simp
    omega

/-- What of twoZ labels has been taken after m rounds. -/
def twoZ (l1 l2 : List Int) : Nat → List Int
  | 0 => []
  | 1 => l1
  | _ => l1 ++ l2

def CcZRel (w : World) (l1 l2 : List Int) (k : Nat) (v i : Value) (wr : World) : Prop :=
  ∃ m, m + k = 2 ∧ i = .int .i64 (m : Int) ∧ v = .int .i64 ((twoZ l1 l2 m).length : Int) ∧ w = wr
def CcZRel2 (w : World) (l1 l2 : List Int) (k : Nat) (v i : Value) (wr : World) : Prop :=
  ∃ m, m + k = 2 ∧ i = .int .i64 (m : Int) ∧ ZRow wr w.heap.size v (twoZ l1 l2 m) ∧ Below w.heap.size w wr

/-- It returns a new row of ints. -/
def RetRowZ (w : World) (l : List Int) (e : Ending) (w' : World) : Prop := ∃ v, e = .returned v ∧ ZRow w' w.heap.size v l ∧ Below w.heap.size w w'

set_option maxRecDepth 100000 in
theorem concatZ_any {w : World} {b o : Nat} {A1 A2 : Option Addr} {c1 c2 : Nat} {l1 l2 : List Int} (k1 : w.cell? ⟨b, o, none⟩ = some (.slice A1 l1.length c1)) (k2 : w.cell? ⟨b, o + 1, none⟩ = some (.slice A2 l2.length c2)) (hb : b < w.heap.size)
    (h1 : Zs w w.heap.size A1 l1) (h2 : Zs w w.heap.size A2 l2) (n1 : A1 = none → c1 = 0) (n2 : A2 = none → c2 = 0) (hn : l1.length + l2.length ≤ 1000000) :
    Calls Tryd.prog 38 #[.slice (some ⟨b, o, none⟩) 2 2] w (RetRowZ w (l1 ++ l2)) := by
  have H1 := Lib.hid h1
  have H2 := Lib.hid h2
  have N1 := Lib.hid n1
  have N2 := Lib.hid n2
  clear h1 h2 n1 n2
  go_enter Tryd.func38, Tryd.ntmps38
  go_wp2_with fail
  go_loopg [3, 11] 2 (fun k v i wr => CcZRel w l1 l2 k v i wr)
  case atStart => exact ⟨0, rfl, rfl, rfl, rfl⟩
  case round =>
    obtain ⟨m, hmk, hi, hv, hw⟩ := hrel
    subst hi hv hw
    cases gk with
    | succ j =>
      have hm : m = 0 ∨ m = 1 := by omega
      have HM := Lib.hid hmk
      rcases hm with rfl | rfl
      · have e0 : (twoZ l1 l2 0).length = 0 := rfl
        have e1 : Hid ((twoZ l1 l2 1).length = l1.length) := rfl
        rw [e0]
        clear hmk
        go_wp2_with fail
        go_roundg j
        case measure => omega
        case rel => exact ⟨1, by have := HM.out; omega, by go_num, by rw [e1.out], rfl⟩
      · have e0 : (twoZ l1 l2 1).length = l1.length := rfl
        have e1 : Hid ((twoZ l1 l2 2).length = l1.length + l2.length) := by unfold Hid twoZ; simp
        rw [e0]
        clear hmk
        go_wp2_with fail
        go_roundg j
        case measure => omega
        case rel => exact ⟨2, by have := HM.out; omega, by go_num, by rw [e1.out]; go_num, rfl⟩
    | zero =>
      have hm2 : m = 2 := by omega
      subst hm2
      have e0 : (twoZ l1 l2 2).length = l1.length + l2.length := by unfold twoZ; simp
      rw [e0]
      have HG := Lib.hid (growZ_any (l1.length + l2.length) (by omega) w)
      clear hmk
      go_wp2_with fail
      refine HG.out.mono ?_
      rintro e w1 ⟨v1, rfl, hr1, hb1⟩
      have B1 := Lib.hid hb1
      have R1 := Lib.hid hr1
      clear hb1 hr1
      go_wp2_with fail
      go_loopg [6, 27] 2 (fun k v i wr => CcZRel2 w l1 l2 k v i wr)
      case atStart => exact ⟨0, rfl, rfl, R1.out, B1.out⟩
      case round =>
        obtain ⟨m, hmk, hi, hr, hbw⟩ := hrel
        subst hi
        have BW := Lib.hid hbw
        have RW := Lib.hid hr
        cases gk with
        | zero =>
          have hm2 : m = 2 := by omega
          subst hm2
          clear hr hbw
          go_wp2_with fail
          go_ret
          exact ⟨_, rfl, RW.out, BW.out⟩
        | succ j =>
          have hm : m = 0 ∨ m = 1 := by omega
          have HM := Lib.hid hmk
          have hsz := hbw.size
          rcases hm with rfl | rfl
          · have q1 := (hbw.cell (p := ⟨b, o, none⟩) hb).trans k1
            have hle : (twoZ l1 l2 0).length + l1.length ≤ 1000001 := by simp [twoZ]; omega
            have HE := Lib.hid (H1.out.below hbw)
            clear hmk hr hbw
            go_wp2_with (first
              | (at_builtin; refine wpList_append_zs rfl _ _ rfl w.heap.size _ _ rfl RW.out w.heap.size A1 c1 l1 rfl HE.out N1.out hle hsz ?_))
            intro v' w2 hr2 hb2
            have B2 := Lib.hid (BW.out.trans hb2)
            have R2 := Lib.hid hr2
            clear hr2 hb2
            go_wp2_with fail
            go_roundg j
            case measure => omega
            case rel => exact ⟨1, by have := HM.out; omega, by go_num, R2.out, B2.out⟩
          · have q1 := (hbw.cell (p := ⟨b, o + 1, none⟩) hb).trans k2
            have hle : (twoZ l1 l2 1).length + l2.length ≤ 1000001 := by simp [twoZ]; omega
            have HE := Lib.hid (H2.out.below hbw)
            clear hmk hr hbw
            go_wp2_with (first
              | (at_builtin; refine wpList_append_zs rfl _ _ rfl w.heap.size _ _ rfl RW.out w.heap.size A2 c2 l2 rfl HE.out N2.out hle hsz ?_))
            intro v' w2 hr2 hb2
            have B2 := Lib.hid (BW.out.trans hb2)
            have R2 := Lib.hid hr2
            clear hr2 hb2
            go_wp2_with fail
            go_roundg j
            case measure => omega
            case rel => exact ⟨2, by have := HM.out; omega, by go_num, R2.out, B2.out⟩

set_option maxRecDepth 100000 in
theorem cloneZ_any {w : World} {A : Option Addr} {c : Nat} {l : List Int} (hl : Zs w w.heap.size A l) (hc : A = none → c = 0) (hn : l.length ≤ 1000000) :
    Calls Tryd.prog 37 #[.slice A l.length c] w (RetRowZ w l) := by
  cases A with
  | none =>
    have hl0 := hl.none
    subst hl0
    have hc0 := hc rfl
    subst hc0
    clear hc hl
    have hq : ∀ w : World, (binOp .eql 22 (.slice none 0 0) (.slice none 0 0)).run Tryd.prog w = .ok (.bool true) w := fun _ => rfl
    go_enter Tryd.func37, Tryd.ntmps37
    go_wp2_with fail
    go_ret
    exact ⟨_, rfl, World.ownsRow_nil _ _ _ _, Below.refl _ _⟩
  | some a =>
    have HL := Lib.hid hl
    clear hl hc
    have hq : ∀ w : World, (binOp .eql 22 (.slice (some a) l.length c) (.slice none 0 0)).run Tryd.prog w = .ok (.bool false) w := fun _ => rfl
    have hle : ([] : List Int).length + l.length ≤ 1000001 := by simp; omega
    have hr0 : Hid (ZRow (w.alloc (.cells #[] 3)) w.heap.size (.slice (some ⟨w.heap.size, 0, none⟩) 0 0) []) := World.ownsRow_lit (base := w.heap.size) w #[] 0 (Nat.le_refl _) (by unfold maxLen; omega) rfl
    have hal : Hid (Below w.heap.size w (w.alloc (.cells #[] 3))) := (Below.refl _ _).alloc (Nat.le_refl _) _
    have hsz : w.heap.size ≤ (w.alloc (.cells #[] 3)).heap.size := by simp
    go_enter Tryd.func37, Tryd.ntmps37
    go_wp2_with (first
      | (at_builtin; refine wpList_append_zs rfl _ _ rfl w.heap.size _ [] rfl hr0.out w.heap.size (some a) c l rfl (HL.out.below hal.out) (fun h => by cases h) hle hsz ?_))
    intro v' w1 hown hb1
    have B1 : Hid (Below w.heap.size w w1) := hal.out.trans hb1
    have R1 := Lib.hid hown
    clear hown hb1
    go_wp2_with fail
    go_ret
    exact ⟨_, rfl, R1.out, B1.out⟩
end Go.Proofs.YtoegmajkfaokdaaDoor
