/- slices.Grow of nothing; slices.Concat of two labels. -/
import Derived.Test.YtpokdihnimlgkaaGreatDoorIt
import Derived.Test.YtpokdihnimlgkaaGreatDoorLm
namespace Go.Proofs.YtpokdihnimlgkaaGreatDoor
open Go.RowKit

theorem grow_any (n : Nat) (hn : n ≤ 1000001) (w : World) : Calls Tryz.prog 60 #[.slice none 0 0, .int .i64 (n : Int)] w fun e w' => ∃ v, e = .returned v ∧ EntRow w' w.heap.size v [] ∧ Below w.heap.size w w' := by
  by_cases h0 : n = 0
  · subst h0
    refine Calls.mono (show Calls Tryz.prog 60 _ _ _ from Any8.slices_Grow_room Tryz.growA none 0 0 0 w (Nat.le_refl _) (by omega) (by omega) (Nat.le_refl _)) ?_
    rintro e w' ⟨rfl, rfl⟩
    exact ⟨_, rfl, World.ownsRow_nil _ _ _ _, Below.refl _ _⟩
  · obtain ⟨i0, hi, hz0, hz1, hz2⟩ := info_parts Tryz.info33
    refine Calls.mono (show Calls Tryz.prog 60 _ _ _ from Any8.slices_Grow_grow Tryz.growA i0 _ hi hz0 (by rw [hz1]; omega) none 0 0 n [] w (Nat.le_refl _) (by omega) (by rw [hz2]; omega) (by omega) (by simp) (fun _ => rfl) (fun a h => by cases h)) ?_
    rintro e w' ⟨rfl, rfl⟩
    refine ⟨_, rfl, ?_, ((Below.refl _ _).drew).alloc (Nat.le_refl _) _⟩
    refine World.ownsRow_made w.drew _ _ (Nat.le_refl _) (grownCap_le_maxLen w _ _ _ (by unfold maxLen; omega)) ?_
    have hge := grownCap_ge w (0 + n) 0 33
    rw [Nat.zero_add] at hge
    have e33 : Tryz.growA_ren.t 25 = 33 := rfl
    simp only [e33, Array.size_append, size_zeroCells, List.size_toArray, List.length_nil, Value.cells]
    simp
    omega

/-- What of two labels has been taken after m rounds. -/
def two (l1 l2 : List Ent) : Nat → List Ent
  | 0 => []
  | 1 => l1
  | _ => l1 ++ l2

def CcRel (w : World) (l1 l2 : List Ent) (k : Nat) (v i : Value) (wr : World) : Prop :=
  ∃ m, m + k = 2 ∧ i = .int .i64 (m : Int) ∧ v = .int .i64 ((two l1 l2 m).length : Int) ∧ w = wr
def CcRel2 (w : World) (l1 l2 : List Ent) (k : Nat) (v i : Value) (wr : World) : Prop :=
  ∃ m, m + k = 2 ∧ i = .int .i64 (m : Int) ∧ EntRow wr w.heap.size v (two l1 l2 m) ∧ Below w.heap.size w wr

/-- It returns a new row of entries. -/
def RetRow (w : World) (l : List Ent) (e : Ending) (w' : World) : Prop := ∃ v, e = .returned v ∧ EntRow w' w.heap.size v l ∧ Below w.heap.size w w'

set_option maxRecDepth 100000 in
theorem concat_any {w : World} {b o : Nat} {A1 A2 : Option Addr} {c1 c2 : Nat} {l1 l2 : List Ent} (k1 : w.cell? ⟨b, o, none⟩ = some (.slice A1 l1.length c1)) (k2 : w.cell? ⟨b, o + 1, none⟩ = some (.slice A2 l2.length c2)) (hb : b < w.heap.size)
    (h1 : Ents w w.heap.size A1 l1) (h2 : Ents w w.heap.size A2 l2) (n1 : A1 = none → c1 = 0) (n2 : A2 = none → c2 = 0) (hn : l1.length + l2.length ≤ 1000000) :
    Calls Tryz.prog 36 #[.slice (some ⟨b, o, none⟩) 2 2] w (RetRow w (l1 ++ l2)) := by
  have H1 := Lib.hid h1
  have H2 := Lib.hid h2
  have N1 := Lib.hid n1
  have N2 := Lib.hid n2
  clear h1 h2 n1 n2
  go_enter Tryz.func36, Tryz.ntmps36
  go_wp2_with fail
  go_loopg [3, 11] 2 (fun k v i wr => CcRel w l1 l2 k v i wr)
  case atStart => exact ⟨0, rfl, rfl, rfl, rfl⟩
  case round =>
    obtain ⟨m, hmk, hi, hv, hw⟩ := hrel
    subst hi hv hw
    cases gk with
    | succ j =>
      have hm : m = 0 ∨ m = 1 := by omega
      have HM := Lib.hid hmk
      rcases hm with rfl | rfl
      · have e0 : (two l1 l2 0).length = 0 := rfl
        have e1 : Hid ((two l1 l2 1).length = l1.length) := rfl
        rw [e0]
        clear hmk
        go_wp2_with fail
        go_roundg j
        case measure => omega
        case rel => exact ⟨1, by have := HM.out; omega, by go_num, by rw [e1.out], rfl⟩
      · have e0 : (two l1 l2 1).length = l1.length := rfl
        have e1 : Hid ((two l1 l2 2).length = l1.length + l2.length) := by unfold Hid two; simp
        rw [e0]
        clear hmk
        go_wp2_with fail
        go_roundg j
        case measure => omega
        case rel => exact ⟨2, by have := HM.out; omega, by go_num, by rw [e1.out]; go_num, rfl⟩
    | zero =>
      have hm2 : m = 2 := by omega
      subst hm2
      have e0 : (two l1 l2 2).length = l1.length + l2.length := by unfold two; simp
      rw [e0]
      have HG := Lib.hid (grow_any (l1.length + l2.length) (by omega) w)
      clear hmk
      go_wp2_with fail
      refine HG.out.mono ?_
      rintro e w1 ⟨v1, rfl, hr1, hb1⟩
      have B1 := Lib.hid hb1
      have R1 := Lib.hid hr1
      clear hb1 hr1
      go_wp2_with fail
      go_loopg [6, 27] 2 (fun k v i wr => CcRel2 w l1 l2 k v i wr)
      case atStart => exact ⟨0, rfl, rfl, R1.out, B1.out⟩
      case round =>
        obtain ⟨m, hmk, hi, hr, hbw⟩ := hrel
        subst hi
        have BW := Lib.hid hbw
        have RW := Lib.hid hr
        cases gk with
        | zero =>
          have hm2 : m = 2 := by omega
          subst hm2
          clear hr hbw
          go_wp2_with fail
          go_ret
          exact ⟨_, rfl, RW.out, BW.out⟩
        | succ j =>
          have hm : m = 0 ∨ m = 1 := by omega
          have HM := Lib.hid hmk
          have hsz := hbw.size
          rcases hm with rfl | rfl
          · have q1 := (hbw.cell (p := ⟨b, o, none⟩) hb).trans k1
            have hle : (two l1 l2 0).length + l1.length ≤ 1000001 := by simp [two]; omega
            have HE := Lib.hid (H1.out.below hbw)
            clear hmk hr hbw
            go_wp2_with (first
              | (at_builtin; refine wpList_append_ents rfl _ _ 23 Tryz.underlying23 rfl w.heap.size _ _ rfl RW.out w.heap.size A1 c1 l1 rfl HE.out N1.out hle hsz ?_))
            intro v' w2 hr2 hb2
            have B2 := Lib.hid (BW.out.trans hb2)
            have R2 := Lib.hid hr2
            clear hr2 hb2
            go_wp2_with fail
            go_roundg j
            case measure => omega
            case rel => exact ⟨1, by have := HM.out; omega, by go_num, R2.out, B2.out⟩
          · have q1 := (hbw.cell (p := ⟨b, o + 1, none⟩) hb).trans k2
            have hle : (two l1 l2 1).length + l2.length ≤ 1000001 := by simp [two]; omega
            have HE := Lib.hid (H2.out.below hbw)
            clear hmk hr hbw
            go_wp2_with (first
              | (at_builtin; refine wpList_append_ents rfl _ _ 23 Tryz.underlying23 rfl w.heap.size _ _ rfl RW.out w.heap.size A2 c2 l2 rfl HE.out N2.out hle hsz ?_))
            intro v' w2 hr2 hb2
            have B2 := Lib.hid (BW.out.trans hb2)
            have R2 := Lib.hid hr2
            clear hr2 hb2
            go_wp2_with fail
            go_roundg j
            case measure => omega
            case rel => exact ⟨2, by have := HM.out; omega, by go_num, R2.out, B2.out⟩
end Go.Proofs.YtpokdihnimlgkaaGreatDoor
