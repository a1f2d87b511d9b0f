/- Lemmas for the law: Xg, Xi. -/
import Derived.Test.YtgcbfggoddkhnaaGreatDoorM08
import Derived.Test.YtgcbfggoddkhnaaGreatDoorM07
import Derived.Laws.ResultCell
import Derived.Deep.CutRange
namespace Go.Proofs.YtgcbfggoddkhnaaGreatDoor
open Go.RowKit
theorem next_below {w W W' : World} (h : Below w.heap.size w W) (k : Below W.heap.size W W') : Below w.heap.size w W' := h.trans (k.mono h.size)
theorem box10 {W : World} {b t : Nat} {v0 v1 v2 v3 v4 v5 v6 v7 v8 v9 : Value} (h : BoxAt W b #[v0, v1, v2, v3, v4, v5, v6, v7, v8, v9] t) :
  W.cell? ⟨b, 0, none⟩ = some v0 ∧ W.cell? ⟨b, 1, none⟩ = some v1 ∧ W.cell? ⟨b, 2, none⟩ = some v2 ∧ W.cell? ⟨b, 3, none⟩ = some v3 ∧ W.cell? ⟨b, 4, none⟩ = some v4 ∧
  W.cell? ⟨b, 5, none⟩ = some v5 ∧ W.cell? ⟨b, 6, none⟩ = some v6 ∧ W.cell? ⟨b, 7, none⟩ = some v7 ∧ W.cell? ⟨b, 8, none⟩ = some v8 ∧ W.cell? ⟨b, 9, none⟩ = some v9 :=
 ⟨h.cell rfl, h.cell rfl, h.cell rfl, h.cell rfl, h.cell rfl, h.cell rfl, h.cell rfl, h.cell rfl, h.cell rfl, h.cell rfl⟩
set_option maxRecDepth 100000 in
set_option maxHeartbeats 8000000 in
theorem right_any9 {w : World} {F : Nat → Prop} {v : Value} {o : Ob} (he : Env w) (h : ObjAt w F v o) (hw : WideO o) : Calls Tryz.prog 14 #[v] w (RetB w (.bool (decide (ObOk o)))) := by
 have RK : Hid (∀ W, Below w.heap.size w W → Calls Tryz.prog 59 #[v] W (RetB W (.bool (decide (KidsOk o.next o.kids))))) := fun W hW => kidsRight_any (h.read hW) hw
 have RF : Hid (∀ W, Below w.heap.size w W → Calls Tryz.prog 63 #[v] W (RetB W (.bool (decide (FieldsOk o))))) := fun W hW => fields_any (h.read hW)
 obtain ⟨vk, ⟨vl, vb, vo, ve, vm, rfl, hl, hb, ho, hen, hm⟩, hk⟩ := h
 have hl := hl.on (F' := No) (Below.refl _ _) (fun _ _ h => h.elim)
 have RM : Hid (∀ W, Below w.heap.size w W → Calls Tryz.prog 62 #[vm] W (RetB W (.bool (decide (MapsOk o.maps))))) := fun W hW => mapsRight_any (F := No) (hm.on hW fun _ _ h => h.elim) fun m hm => (hw.maps.2 m hm).1
 obtain ⟨Al, cl, rfl, HL⟩ := hl.lab hw.lab
 obtain ⟨Ae, ce, rfl, HE⟩ := hen.lab hw.entry
 obtain ⟨Ao, co, rfl, HO⟩ := ho.sl hw.own
 obtain ⟨Ab, cb, rfl, -⟩ := hb
 have RL : Hid (∀ W, Below w.heap.size w W → Calls Tryz.prog 58 #[.slice Al o.lab.length cl] W (RetB W (.bool (decide (RightL o.lab))))) := fun W hW => labelRight_any (he.on hW) (HL.on hW).ents HL.txt HL.len
 have RE : Hid (∀ W, Below w.heap.size w W → Calls Tryz.prog 58 #[.slice Ae o.entry.length ce] W (RetB W (.bool (decide (RightL o.entry))))) := fun W hW => labelRight_any (he.on hW) (HE.on hW).ents HE.txt HE.len
 have RO : Hid (∀ W, Below w.heap.size w W → Calls Tryz.prog 61 #[.slice Ao o.own.length co] W (RetB W (.bool (decide (OwnL o.own))))) := fun W hW => ownRight_any (he.on hW) (HO.on hW)
 have RN : Hid (∀ W, Below w.heap.size w W → Calls Tryz.prog 60 #[.int .i64 o.next, .int .i64 1048577] W fun e w' => e = .returned (.bool (decide (0 ≤ o.next ∧ o.next ≤ 1048577))) ∧ W = w') := fun W _ => within_any _ _ _
 have RC : Hid (∀ W, Below w.heap.size w W → Calls Tryz.prog 60 #[.int .i64 o.cats, .int .i64 65536] W fun e w' => e = .returned (.bool (decide (0 ≤ o.cats ∧ o.cats ≤ 65536))) ∧ W = w') := fun W _ => within_any _ _ _
 have RR : Hid (∀ W, Below w.heap.size w W → Calls Tryz.prog 60 #[.int .i64 o.ring, .int .i64 1048576] W fun e w' => e = .returned (.bool (decide (0 ≤ o.ring ∧ o.ring ≤ 1048576))) ∧ W = w') := fun W _ => within_any _ _ _
 have B0 : Hid (Below w.heap.size w (w.alloc (.cells #[.int .i64 o.kind, .slice Al o.lab.length cl, vk, .int .i64 o.next, .slice Ab o.bytes.length cb, .slice Ao o.own.length co, .int .i64 o.cats, .slice Ae o.entry.length ce, .int .i64 o.ring, vm] 29))) := (Below.refl _ _).alloc (Nat.le_refl _) _
 have X0 : Hid (BoxAt (w.alloc (.cells #[.int .i64 o.kind, .slice Al o.lab.length cl, vk, .int .i64 o.next, .slice Ab o.bytes.length cb, .slice Ao o.own.length co, .int .i64 o.cats, .slice Ae o.entry.length ce, .int .i64 o.ring, vm] 29)) w.heap.size #[.int .i64 o.kind, .slice Al o.lab.length cl, vk, .int .i64 o.next, .slice Ab o.bytes.length cb, .slice Ao o.own.length co, .int .i64 o.cats, .slice Ae o.entry.length ce, .int .i64 o.ring, vm] 29) := BoxAt.new _ _ _
 have OK := Lib.hid (obOk_iff (o := o))
 clear he hw hl ho hen hm hk HL HE HO
 by_cases ckind1 : 1 ≤ o.kind
 case neg =>
  have HD : Hid (decide (ObOk o) = false) := decide_eq_false fun h => ckind1 h.kind.1
  go_enter Tryz.func14, Tryz.ntmps14
  go_wp2_with fail
  go_ret
  exact ⟨by rw [HD.out] <;> rfl, B0.out⟩
 case pos =>
  by_cases ckind5 : o.kind ≤ 5
  case neg =>
   have HD : Hid (decide (ObOk o) = false) := decide_eq_false fun h => ckind5 h.kind.2
   go_enter Tryz.func14, Tryz.ntmps14
   go_wp2_with fail
   go_ret
   exact ⟨by rw [HD.out] <;> rfl, B0.out⟩
  case pos =>
   by_cases clab : RightL o.lab
   case neg =>
    have HD : Hid (decide (ObOk o) = false) := decide_eq_false fun h => clab h.lab
    rw [decide_eq_false clab] at RL
    clear clab
    go_enter Tryz.func14, Tryz.ntmps14
    go_wp2_with (first
     | (go_at_call 58; refine (RL.out _ B0.out).mono ?_; rintro e wL ⟨rfl, hbL⟩; have bL := Lib.hid (next_below B0.out hbL); have xL := Lib.hid ((X0.out).on hbL); clear hbL; obtain ⟨qL0, qL1, qL2, qL3, qL4, qL5, qL6, qL7, qL8, qL9⟩ := box10 xL.out))
    go_ret
    exact ⟨by rw [HD.out] <;> rfl, bL.out⟩
   case pos =>
    by_cases ckids : KidsOk o.next o.kids
    case neg =>
     have HD : Hid (decide (ObOk o) = false) := decide_eq_false fun h => ckids h.kids
     rw [decide_eq_true clab] at RL
     rw [decide_eq_false ckids] at RK
     clear clab ckids
     go_enter Tryz.func14, Tryz.ntmps14
     go_wp2_with (first
      | (go_at_call 59; refine (RK.out _ bL.out).mono ?_; rintro e wK ⟨rfl, hbK⟩; have bK := Lib.hid (next_below bL.out hbK); have xK := Lib.hid ((xL.out).on hbK); clear hbK; obtain ⟨qK0, qK1, qK2, qK3, qK4, qK5, qK6, qK7, qK8, qK9⟩ := box10 xK.out)
      | (go_at_call 58; refine (RL.out _ B0.out).mono ?_; rintro e wL ⟨rfl, hbL⟩; have bL := Lib.hid (next_below B0.out hbL); have xL := Lib.hid ((X0.out).on hbL); clear hbL; obtain ⟨qL0, qL1, qL2, qL3, qL4, qL5, qL6, qL7, qL8, qL9⟩ := box10 xL.out))
     go_ret
     exact ⟨by rw [HD.out] <;> rfl, bK.out⟩
    case pos =>
     by_cases cnext : 0 ≤ o.next ∧ o.next ≤ 1048577
     case neg =>
      have HD : Hid (decide (ObOk o) = false) := decide_eq_false fun h => cnext h.next
      rw [decide_eq_true clab] at RL
      rw [decide_eq_true ckids] at RK
      rw [decide_eq_false cnext] at RN
      clear clab ckids cnext
      go_enter Tryz.func14, Tryz.ntmps14
      go_wp2_with (first
       | (go_at_call 60; refine (RN.out _ bK.out).mono ?_; rintro e wN ⟨rfl, rfl⟩)
       | (go_at_call 59; refine (RK.out _ bL.out).mono ?_; rintro e wK ⟨rfl, hbK⟩; have bK := Lib.hid (next_below bL.out hbK); have xK := Lib.hid ((xL.out).on hbK); clear hbK; obtain ⟨qK0, qK1, qK2, qK3, qK4, qK5, qK6, qK7, qK8, qK9⟩ := box10 xK.out)
       | (go_at_call 58; refine (RL.out _ B0.out).mono ?_; rintro e wL ⟨rfl, hbL⟩; have bL := Lib.hid (next_below B0.out hbL); have xL := Lib.hid ((X0.out).on hbL); clear hbL; obtain ⟨qL0, qL1, qL2, qL3, qL4, qL5, qL6, qL7, qL8, qL9⟩ := box10 xL.out))
      go_ret
      exact ⟨by rw [HD.out] <;> rfl, bK.out⟩
     case pos =>
      by_cases cbytes : o.bytes.length ≤ 256
      case neg =>
       have HD : Hid (decide (ObOk o) = false) := decide_eq_false fun h => cbytes h.bytes
       rw [decide_eq_true clab] at RL
       rw [decide_eq_true ckids] at RK
       rw [decide_eq_true cnext] at RN
       have t6 : ¬ (o.bytes.length : Int) ≤ 256 := by omega
       clear clab ckids cnext cbytes
       go_enter Tryz.func14, Tryz.ntmps14
       go_wp2_with (first
        | (go_at_call 60; refine (RN.out _ bK.out).mono ?_; rintro e wN ⟨rfl, rfl⟩)
        | (go_at_call 59; refine (RK.out _ bL.out).mono ?_; rintro e wK ⟨rfl, hbK⟩; have bK := Lib.hid (next_below bL.out hbK); have xK := Lib.hid ((xL.out).on hbK); clear hbK; obtain ⟨qK0, qK1, qK2, qK3, qK4, qK5, qK6, qK7, qK8, qK9⟩ := box10 xK.out)
        | (go_at_call 58; refine (RL.out _ B0.out).mono ?_; rintro e wL ⟨rfl, hbL⟩; have bL := Lib.hid (next_below B0.out hbL); have xL := Lib.hid ((X0.out).on hbL); clear hbL; obtain ⟨qL0, qL1, qL2, qL3, qL4, qL5, qL6, qL7, qL8, qL9⟩ := box10 xL.out))
       go_ret
       exact ⟨by rw [HD.out] <;> rfl, bK.out⟩
      case pos =>
       by_cases cown : OwnL o.own
       case neg =>
        have HD : Hid (decide (ObOk o) = false) := decide_eq_false fun h => cown h.own
        rw [decide_eq_true clab] at RL
        rw [decide_eq_true ckids] at RK
        rw [decide_eq_true cnext] at RN
        rw [decide_eq_false cown] at RO
        have t6 : (o.bytes.length : Int) ≤ 256 := by omega
        clear clab ckids cnext cbytes cown
        go_enter Tryz.func14, Tryz.ntmps14
        go_wp2_with (first
         | (go_at_call 61; refine (RO.out _ bK.out).mono ?_; rintro e wO ⟨rfl, hbO⟩; have bO := Lib.hid (next_below bK.out hbO); have xO := Lib.hid ((xK.out).on hbO); clear hbO; obtain ⟨qO0, qO1, qO2, qO3, qO4, qO5, qO6, qO7, qO8, qO9⟩ := box10 xO.out)
         | (go_at_call 60; refine (RN.out _ bK.out).mono ?_; rintro e wN ⟨rfl, rfl⟩)
         | (go_at_call 59; refine (RK.out _ bL.out).mono ?_; rintro e wK ⟨rfl, hbK⟩; have bK := Lib.hid (next_below bL.out hbK); have xK := Lib.hid ((xL.out).on hbK); clear hbK; obtain ⟨qK0, qK1, qK2, qK3, qK4, qK5, qK6, qK7, qK8, qK9⟩ := box10 xK.out)
         | (go_at_call 58; refine (RL.out _ B0.out).mono ?_; rintro e wL ⟨rfl, hbL⟩; have bL := Lib.hid (next_below B0.out hbL); have xL := Lib.hid ((X0.out).on hbL); clear hbL; obtain ⟨qL0, qL1, qL2, qL3, qL4, qL5, qL6, qL7, qL8, qL9⟩ := box10 xL.out))
        go_ret
        exact ⟨by rw [HD.out] <;> rfl, bO.out⟩
       case pos =>
        by_cases ccats : 0 ≤ o.cats ∧ o.cats ≤ 65536
        case neg =>
         have HD : Hid (decide (ObOk o) = false) := decide_eq_false fun h => ccats h.cats
         rw [decide_eq_true clab] at RL
         rw [decide_eq_true ckids] at RK
         rw [decide_eq_true cnext] at RN
         rw [decide_eq_true cown] at RO
         rw [decide_eq_false ccats] at RC
         have t6 : (o.bytes.length : Int) ≤ 256 := by omega
         clear clab ckids cnext cbytes cown ccats
         go_enter Tryz.func14, Tryz.ntmps14
         go_wp2_with (first
          | (go_at_call 60; refine (RC.out _ bO.out).mono ?_; rintro e wC ⟨rfl, rfl⟩)
          | (go_at_call 61; refine (RO.out _ bK.out).mono ?_; rintro e wO ⟨rfl, hbO⟩; have bO := Lib.hid (next_below bK.out hbO); have xO := Lib.hid ((xK.out).on hbO); clear hbO; obtain ⟨qO0, qO1, qO2, qO3, qO4, qO5, qO6, qO7, qO8, qO9⟩ := box10 xO.out)
          | (go_at_call 60; refine (RN.out _ bK.out).mono ?_; rintro e wN ⟨rfl, rfl⟩)
          | (go_at_call 59; refine (RK.out _ bL.out).mono ?_; rintro e wK ⟨rfl, hbK⟩; have bK := Lib.hid (next_below bL.out hbK); have xK := Lib.hid ((xL.out).on hbK); clear hbK; obtain ⟨qK0, qK1, qK2, qK3, qK4, qK5, qK6, qK7, qK8, qK9⟩ := box10 xK.out)
          | (go_at_call 58; refine (RL.out _ B0.out).mono ?_; rintro e wL ⟨rfl, hbL⟩; have bL := Lib.hid (next_below B0.out hbL); have xL := Lib.hid ((X0.out).on hbL); clear hbL; obtain ⟨qL0, qL1, qL2, qL3, qL4, qL5, qL6, qL7, qL8, qL9⟩ := box10 xL.out))
         go_ret
         exact ⟨by rw [HD.out] <;> rfl, bO.out⟩
        case pos =>
         by_cases centry : RightL o.entry
         case neg =>
          have HD : Hid (decide (ObOk o) = false) := decide_eq_false fun h => centry h.entry
          rw [decide_eq_true clab] at RL
          rw [decide_eq_true ckids] at RK
          rw [decide_eq_true cnext] at RN
          rw [decide_eq_true cown] at RO
          rw [decide_eq_true ccats] at RC
          rw [decide_eq_false centry] at RE
          have t6 : (o.bytes.length : Int) ≤ 256 := by omega
          clear clab ckids cnext cbytes cown ccats centry
          go_enter Tryz.func14, Tryz.ntmps14
          go_wp2_with (first
           | (go_at_call 58; refine (RE.out _ bO.out).mono ?_; rintro e wE ⟨rfl, hbE⟩; have bE := Lib.hid (next_below bO.out hbE); have xE := Lib.hid ((xO.out).on hbE); clear hbE; obtain ⟨qE0, qE1, qE2, qE3, qE4, qE5, qE6, qE7, qE8, qE9⟩ := box10 xE.out)
           | (go_at_call 60; refine (RC.out _ bO.out).mono ?_; rintro e wC ⟨rfl, rfl⟩)
           | (go_at_call 61; refine (RO.out _ bK.out).mono ?_; rintro e wO ⟨rfl, hbO⟩; have bO := Lib.hid (next_below bK.out hbO); have xO := Lib.hid ((xK.out).on hbO); clear hbO; obtain ⟨qO0, qO1, qO2, qO3, qO4, qO5, qO6, qO7, qO8, qO9⟩ := box10 xO.out)
           | (go_at_call 60; refine (RN.out _ bK.out).mono ?_; rintro e wN ⟨rfl, rfl⟩)
           | (go_at_call 59; refine (RK.out _ bL.out).mono ?_; rintro e wK ⟨rfl, hbK⟩; have bK := Lib.hid (next_below bL.out hbK); have xK := Lib.hid ((xL.out).on hbK); clear hbK; obtain ⟨qK0, qK1, qK2, qK3, qK4, qK5, qK6, qK7, qK8, qK9⟩ := box10 xK.out)
           | (go_at_call 58; refine (RL.out _ B0.out).mono ?_; rintro e wL ⟨rfl, hbL⟩; have bL := Lib.hid (next_below B0.out hbL); have xL := Lib.hid ((X0.out).on hbL); clear hbL; obtain ⟨qL0, qL1, qL2, qL3, qL4, qL5, qL6, qL7, qL8, qL9⟩ := box10 xL.out))
          go_ret
          exact ⟨by rw [HD.out] <;> rfl, bE.out⟩
         case pos =>
          by_cases cring : 0 ≤ o.ring ∧ o.ring ≤ 1048576
          case neg =>
           have HD : Hid (decide (ObOk o) = false) := decide_eq_false fun h => cring h.ring
           rw [decide_eq_true clab] at RL
           rw [decide_eq_true ckids] at RK
           rw [decide_eq_true cnext] at RN
           rw [decide_eq_true cown] at RO
           rw [decide_eq_true ccats] at RC
           rw [decide_eq_true centry] at RE
           rw [decide_eq_false cring] at RR
           have t6 : (o.bytes.length : Int) ≤ 256 := by omega
           clear clab ckids cnext cbytes cown ccats centry cring
           go_enter Tryz.func14, Tryz.ntmps14
           go_wp2_with (first
            | (go_at_call 60; refine (RR.out _ bE.out).mono ?_; rintro e wR ⟨rfl, rfl⟩)
            | (go_at_call 58; refine (RE.out _ bO.out).mono ?_; rintro e wE ⟨rfl, hbE⟩; have bE := Lib.hid (next_below bO.out hbE); have xE := Lib.hid ((xO.out).on hbE); clear hbE; obtain ⟨qE0, qE1, qE2, qE3, qE4, qE5, qE6, qE7, qE8, qE9⟩ := box10 xE.out)
            | (go_at_call 60; refine (RC.out _ bO.out).mono ?_; rintro e wC ⟨rfl, rfl⟩)
            | (go_at_call 61; refine (RO.out _ bK.out).mono ?_; rintro e wO ⟨rfl, hbO⟩; have bO := Lib.hid (next_below bK.out hbO); have xO := Lib.hid ((xK.out).on hbO); clear hbO; obtain ⟨qO0, qO1, qO2, qO3, qO4, qO5, qO6, qO7, qO8, qO9⟩ := box10 xO.out)
            | (go_at_call 60; refine (RN.out _ bK.out).mono ?_; rintro e wN ⟨rfl, rfl⟩)
            | (go_at_call 59; refine (RK.out _ bL.out).mono ?_; rintro e wK ⟨rfl, hbK⟩; have bK := Lib.hid (next_below bL.out hbK); have xK := Lib.hid ((xL.out).on hbK); clear hbK; obtain ⟨qK0, qK1, qK2, qK3, qK4, qK5, qK6, qK7, qK8, qK9⟩ := box10 xK.out)
            | (go_at_call 58; refine (RL.out _ B0.out).mono ?_; rintro e wL ⟨rfl, hbL⟩; have bL := Lib.hid (next_below B0.out hbL); have xL := Lib.hid ((X0.out).on hbL); clear hbL; obtain ⟨qL0, qL1, qL2, qL3, qL4, qL5, qL6, qL7, qL8, qL9⟩ := box10 xL.out))
           go_ret
           exact ⟨by rw [HD.out] <;> rfl, bE.out⟩
          case pos =>
           by_cases cmaps : MapsOk o.maps
           case neg =>
            have HD : Hid (decide (ObOk o) = false) := decide_eq_false fun h => cmaps h.maps
            rw [decide_eq_true clab] at RL
            rw [decide_eq_true ckids] at RK
            rw [decide_eq_true cnext] at RN
            rw [decide_eq_true cown] at RO
            rw [decide_eq_true ccats] at RC
            rw [decide_eq_true centry] at RE
            rw [decide_eq_true cring] at RR
            rw [decide_eq_false cmaps] at RM
            have t6 : (o.bytes.length : Int) ≤ 256 := by omega
            clear clab ckids cnext cbytes cown ccats centry cring cmaps
            go_enter Tryz.func14, Tryz.ntmps14
            go_wp2_with (first
             | (go_at_call 62; refine (RM.out _ bE.out).mono ?_; rintro e wM ⟨rfl, hbM⟩; have bM := Lib.hid (next_below bE.out hbM); have xM := Lib.hid ((xE.out).on hbM); clear hbM; obtain ⟨qM0, qM1, qM2, qM3, qM4, qM5, qM6, qM7, qM8, qM9⟩ := box10 xM.out)
             | (go_at_call 60; refine (RR.out _ bE.out).mono ?_; rintro e wR ⟨rfl, rfl⟩)
             | (go_at_call 58; refine (RE.out _ bO.out).mono ?_; rintro e wE ⟨rfl, hbE⟩; have bE := Lib.hid (next_below bO.out hbE); have xE := Lib.hid ((xO.out).on hbE); clear hbE; obtain ⟨qE0, qE1, qE2, qE3, qE4, qE5, qE6, qE7, qE8, qE9⟩ := box10 xE.out)
             | (go_at_call 60; refine (RC.out _ bO.out).mono ?_; rintro e wC ⟨rfl, rfl⟩)
             | (go_at_call 61; refine (RO.out _ bK.out).mono ?_; rintro e wO ⟨rfl, hbO⟩; have bO := Lib.hid (next_below bK.out hbO); have xO := Lib.hid ((xK.out).on hbO); clear hbO; obtain ⟨qO0, qO1, qO2, qO3, qO4, qO5, qO6, qO7, qO8, qO9⟩ := box10 xO.out)
             | (go_at_call 60; refine (RN.out _ bK.out).mono ?_; rintro e wN ⟨rfl, rfl⟩)
             | (go_at_call 59; refine (RK.out _ bL.out).mono ?_; rintro e wK ⟨rfl, hbK⟩; have bK := Lib.hid (next_below bL.out hbK); have xK := Lib.hid ((xL.out).on hbK); clear hbK; obtain ⟨qK0, qK1, qK2, qK3, qK4, qK5, qK6, qK7, qK8, qK9⟩ := box10 xK.out)
             | (go_at_call 58; refine (RL.out _ B0.out).mono ?_; rintro e wL ⟨rfl, hbL⟩; have bL := Lib.hid (next_below B0.out hbL); have xL := Lib.hid ((X0.out).on hbL); clear hbL; obtain ⟨qL0, qL1, qL2, qL3, qL4, qL5, qL6, qL7, qL8, qL9⟩ := box10 xL.out))
            go_ret
            exact ⟨by rw [HD.out] <;> rfl, bM.out⟩
           case pos =>
            by_cases cfields : FieldsOk o
            case neg =>
             have HD : Hid (decide (ObOk o) = false) := decide_eq_false fun h => cfields h.fields
             rw [decide_eq_true clab] at RL
             rw [decide_eq_true ckids] at RK
             rw [decide_eq_true cnext] at RN
             rw [decide_eq_true cown] at RO
             rw [decide_eq_true ccats] at RC
             rw [decide_eq_true centry] at RE
             rw [decide_eq_true cring] at RR
             rw [decide_eq_true cmaps] at RM
             rw [decide_eq_false cfields] at RF
             have t6 : (o.bytes.length : Int) ≤ 256 := by omega
             clear clab ckids cnext cbytes cown ccats centry cring cmaps cfields
             go_enter Tryz.func14, Tryz.ntmps14
             go_wp2_with (first
              | (go_at_call 63; refine (RF.out _ bM.out).mono ?_; rintro e wF ⟨rfl, hbF⟩; have bF := Lib.hid (next_below bM.out hbF); have xF := Lib.hid ((xM.out).on hbF); clear hbF; obtain ⟨qF0, qF1, qF2, qF3, qF4, qF5, qF6, qF7, qF8, qF9⟩ := box10 xF.out)
              | (go_at_call 62; refine (RM.out _ bE.out).mono ?_; rintro e wM ⟨rfl, hbM⟩; have bM := Lib.hid (next_below bE.out hbM); have xM := Lib.hid ((xE.out).on hbM); clear hbM; obtain ⟨qM0, qM1, qM2, qM3, qM4, qM5, qM6, qM7, qM8, qM9⟩ := box10 xM.out)
              | (go_at_call 60; refine (RR.out _ bE.out).mono ?_; rintro e wR ⟨rfl, rfl⟩)
              | (go_at_call 58; refine (RE.out _ bO.out).mono ?_; rintro e wE ⟨rfl, hbE⟩; have bE := Lib.hid (next_below bO.out hbE); have xE := Lib.hid ((xO.out).on hbE); clear hbE; obtain ⟨qE0, qE1, qE2, qE3, qE4, qE5, qE6, qE7, qE8, qE9⟩ := box10 xE.out)
              | (go_at_call 60; refine (RC.out _ bO.out).mono ?_; rintro e wC ⟨rfl, rfl⟩)
              | (go_at_call 61; refine (RO.out _ bK.out).mono ?_; rintro e wO ⟨rfl, hbO⟩; have bO := Lib.hid (next_below bK.out hbO); have xO := Lib.hid ((xK.out).on hbO); clear hbO; obtain ⟨qO0, qO1, qO2, qO3, qO4, qO5, qO6, qO7, qO8, qO9⟩ := box10 xO.out)
              | (go_at_call 60; refine (RN.out _ bK.out).mono ?_; rintro e wN ⟨rfl, rfl⟩)
              | (go_at_call 59; refine (RK.out _ bL.out).mono ?_; rintro e wK ⟨rfl, hbK⟩; have bK := Lib.hid (next_below bL.out hbK); have xK := Lib.hid ((xL.out).on hbK); clear hbK; obtain ⟨qK0, qK1, qK2, qK3, qK4, qK5, qK6, qK7, qK8, qK9⟩ := box10 xK.out)
              | (go_at_call 58; refine (RL.out _ B0.out).mono ?_; rintro e wL ⟨rfl, hbL⟩; have bL := Lib.hid (next_below B0.out hbL); have xL := Lib.hid ((X0.out).on hbL); clear hbL; obtain ⟨qL0, qL1, qL2, qL3, qL4, qL5, qL6, qL7, qL8, qL9⟩ := box10 xL.out))
             go_ret
             exact ⟨by rw [HD.out] <;> rfl, bF.out⟩
            case pos =>
             have HD : Hid (decide (ObOk o) = true) := decide_eq_true (OK.out.2 ⟨⟨ckind1, ckind5⟩, clab, ckids, cnext, cbytes, cown, ccats, centry, cring, cmaps, cfields⟩)
             rw [decide_eq_true clab] at RL
             rw [decide_eq_true ckids] at RK
             rw [decide_eq_true cnext] at RN
             rw [decide_eq_true cown] at RO
             rw [decide_eq_true ccats] at RC
             rw [decide_eq_true centry] at RE
             rw [decide_eq_true cring] at RR
             rw [decide_eq_true cmaps] at RM
             rw [decide_eq_true cfields] at RF
             have t6 : (o.bytes.length : Int) ≤ 256 := by omega
             clear clab ckids cnext cbytes cown ccats centry cring cmaps cfields
             go_enter Tryz.func14, Tryz.ntmps14
             go_wp2_with (first
              | (go_at_call 63; refine (RF.out _ bM.out).mono ?_; rintro e wF ⟨rfl, hbF⟩; have bF := Lib.hid (next_below bM.out hbF); have xF := Lib.hid ((xM.out).on hbF); clear hbF; obtain ⟨qF0, qF1, qF2, qF3, qF4, qF5, qF6, qF7, qF8, qF9⟩ := box10 xF.out)
              | (go_at_call 62; refine (RM.out _ bE.out).mono ?_; rintro e wM ⟨rfl, hbM⟩; have bM := Lib.hid (next_below bE.out hbM); have xM := Lib.hid ((xE.out).on hbM); clear hbM; obtain ⟨qM0, qM1, qM2, qM3, qM4, qM5, qM6, qM7, qM8, qM9⟩ := box10 xM.out)
              | (go_at_call 60; refine (RR.out _ bE.out).mono ?_; rintro e wR ⟨rfl, rfl⟩)
              | (go_at_call 58; refine (RE.out _ bO.out).mono ?_; rintro e wE ⟨rfl, hbE⟩; have bE := Lib.hid (next_below bO.out hbE); have xE := Lib.hid ((xO.out).on hbE); clear hbE; obtain ⟨qE0, qE1, qE2, qE3, qE4, qE5, qE6, qE7, qE8, qE9⟩ := box10 xE.out)
              | (go_at_call 60; refine (RC.out _ bO.out).mono ?_; rintro e wC ⟨rfl, rfl⟩)
              | (go_at_call 61; refine (RO.out _ bK.out).mono ?_; rintro e wO ⟨rfl, hbO⟩; have bO := Lib.hid (next_below bK.out hbO); have xO := Lib.hid ((xK.out).on hbO); clear hbO; obtain ⟨qO0, qO1, qO2, qO3, qO4, qO5, qO6, qO7, qO8, qO9⟩ := box10 xO.out)
              | (go_at_call 60; refine (RN.out _ bK.out).mono ?_; rintro e wN ⟨rfl, rfl⟩)
              | (go_at_call 59; refine (RK.out _ bL.out).mono ?_; rintro e wK ⟨rfl, hbK⟩; have bK := Lib.hid (next_below bL.out hbK); have xK := Lib.hid ((xL.out).on hbK); clear hbK; obtain ⟨qK0, qK1, qK2, qK3, qK4, qK5, qK6, qK7, qK8, qK9⟩ := box10 xK.out)
              | (go_at_call 58; refine (RL.out _ B0.out).mono ?_; rintro e wL ⟨rfl, hbL⟩; have bL := Lib.hid (next_below B0.out hbL); have xL := Lib.hid ((X0.out).on hbL); clear hbL; obtain ⟨qL0, qL1, qL2, qL3, qL4, qL5, qL6, qL7, qL8, qL9⟩ := box10 xL.out))
             go_ret
             exact ⟨by rw [HD.out] <;> rfl, bF.out⟩
end Go.Proofs.YtgcbfggoddkhnaaGreatDoor
namespace Go.Proofs.YtgcbfggoddkhnaaGreatDoor
open Go.RowKit
def ShapeO (v : Value) : Prop := ∃ (k : Int) (al : Option Addr) (nl cl : Nat) (ak : Option Addr) (nk ck : Nat) (nx : Int) (ab : Option Addr) (nb cb : Nat) (ao : Option Addr) (no co : Nat) (ca : Int) (ae : Option Addr) (ne ce : Nat) (ri : Int) (am : Option Addr) (nm cm : Nat),
 v = .agg #[.int .i64 k, .slice al nl cl, .slice ak nk ck, .int .i64 nx, .slice ab nb cb, .slice ao no co, .int .i64 ca, .slice ae ne ce, .int .i64 ri, .slice am nm cm]
theorem ObjK.shape {w : World} {F G : Nat → Prop} {v vk : Value} {o : Ob} {n : Nat} {cs : List Value} (h : ObjK w F v vk o) (hk : SlV w G vk n cs) : ShapeO v := by
 obtain ⟨vl, vb, vo, ve, vm, rfl, ⟨_, _, rfl, -⟩, ⟨_, _, rfl, -⟩, ⟨_, _, rfl, -⟩, ⟨_, _, rfl, -⟩, ⟨_, _, rfl, -⟩⟩ := h
 obtain ⟨_, _, rfl, -⟩ := hk
 exact ⟨_, _, _, _, _, _, _, _, _, _, _, _, _, _, _, _, _, _, _, _, _, _, rfl⟩
theorem ObjAt.shape {w : World} {F : Nat → Prop} {v : Value} {o : Ob} (h : ObjAt w F v o) : ShapeO v := by
 obtain ⟨vk, h1, h2⟩ := h
 exact h1.shape h2
theorem BoxAt.far {W : World} {b : Nat} {cs : Array Value} {t : TypeId} (h : BoxAt W b cs t) {a : Addr} (ha : a.block ≠ b) (v : Value) : BoxAt (W.setCell a v) b cs t := (Below.heap_setCell _ _ _ _ (fun e => ha e.symm)).trans h
def put10 (W : World) (b : Nat) (v0 v1 v2 v3 v4 v5 v6 v7 v8 v9 : Value) : World := ((((((((((W.setCell ⟨b, 0, none⟩ v0).setCell ⟨b, 1, none⟩ v1).setCell ⟨b, 2, none⟩ v2).setCell ⟨b, 3, none⟩ v3).setCell ⟨b, 4, none⟩ v4).setCell ⟨b, 5, none⟩ v5).setCell ⟨b, 6, none⟩ v6).setCell ⟨b, 7, none⟩ v7).setCell ⟨b, 8, none⟩ v8).setCell ⟨b, 9, none⟩ v9)
theorem BoxAt.setL {W : World} {b t : Nat} {l : List Value} (h : BoxAt W b l.toArray t) (k : Nat) (v : Value) : BoxAt (W.setCell ⟨b, k, none⟩ v) b (l.set k v).toArray t := by
 have := h.set k v
 rwa [List.setIfInBounds_toArray] at this
theorem BoxAt.set10 {W : World} {b t : Nat} {x0 x1 x2 x3 x4 x5 x6 x7 x8 x9 : Value} (h : BoxAt W b #[x0, x1, x2, x3, x4, x5, x6, x7, x8, x9] t) (v0 v1 v2 v3 v4 v5 v6 v7 v8 v9 : Value) : BoxAt (put10 W b v0 v1 v2 v3 v4 v5 v6 v7 v8 v9) b #[v0, v1, v2, v3, v4, v5, v6, v7, v8, v9] t := by
 have h0 := h.setL 0 v0
 have h1 := h0.setL 1 v1
 have h2 := h1.setL 2 v2
 have h3 := h2.setL 3 v3
 have h4 := h3.setL 4 v4
 have h5 := h4.setL 5 v5
 have h6 := h5.setL 6 v6
 have h7 := h6.setL 7 v7
 have h8 := h7.setL 8 v8
 have h9 := h8.setL 9 v9
 simp only [List.set_cons_zero, List.set_cons_succ] at h9
 exact h9
theorem BoxAt.far10 {W : World} {b c t : Nat} {cs : Array Value} (h : BoxAt W c cs t) (hne : b ≠ c) (v0 v1 v2 v3 v4 v5 v6 v7 v8 v9 : Value) : BoxAt (put10 W b v0 v1 v2 v3 v4 v5 v6 v7 v8 v9) c cs t := by
 have h0 := h.far (a := ⟨b, 0, none⟩) hne v0
 have h1 := h0.far (a := ⟨b, 1, none⟩) hne v1
 have h2 := h1.far (a := ⟨b, 2, none⟩) hne v2
 have h3 := h2.far (a := ⟨b, 3, none⟩) hne v3
 have h4 := h3.far (a := ⟨b, 4, none⟩) hne v4
 have h5 := h4.far (a := ⟨b, 5, none⟩) hne v5
 have h6 := h5.far (a := ⟨b, 6, none⟩) hne v6
 have h7 := h6.far (a := ⟨b, 7, none⟩) hne v7
 have h8 := h7.far (a := ⟨b, 8, none⟩) hne v8
 exact h8.far (a := ⟨b, 9, none⟩) hne v9
theorem below_put10 {w W : World} {B b : Nat} (h : Below B w W) (hb : B ≤ b) (v0 v1 v2 v3 v4 v5 v6 v7 v8 v9 : Value) : Below B w (put10 W b v0 v1 v2 v3 v4 v5 v6 v7 v8 v9) := by
 have h0 := h.setCell (p := ⟨b, 0, none⟩) hb v0
 have h1 := h0.setCell (p := ⟨b, 1, none⟩) hb v1
 have h2 := h1.setCell (p := ⟨b, 2, none⟩) hb v2
 have h3 := h2.setCell (p := ⟨b, 3, none⟩) hb v3
 have h4 := h3.setCell (p := ⟨b, 4, none⟩) hb v4
 have h5 := h4.setCell (p := ⟨b, 5, none⟩) hb v5
 have h6 := h5.setCell (p := ⟨b, 6, none⟩) hb v6
 have h7 := h6.setCell (p := ⟨b, 7, none⟩) hb v7
 have h8 := h7.setCell (p := ⟨b, 8, none⟩) hb v8
 exact h8.setCell (p := ⟨b, 9, none⟩) hb v9
set_option maxRecDepth 100000 in
set_option maxHeartbeats 4000000 in
theorem find_any {w : World} {t b n : Nat} {T : TT} {V : List UInt8 → Value} {A : Option Addr} {c : Nat} {p : List Int} (he : Env w) (ht : w.cell? ⟨t, 0, none⟩ = some (.map (some b))) (hm : MapV w b n T V) (hp : Pa.PL w A c p) (hn : p.length ≤ 10000000) (hsh : ShapeO (lookV T V (Pa.zText p))) :
   Calls Tryz.prog 75 #[.pointer (some ⟨t, 0, none⟩), .slice A p.length c] w (RetB w (.tuple #[lookV T V (Pa.zText p), .bool (T (Pa.zText p)).isSome])) := by
 obtain ⟨S, hS⟩ : ∃ S, S = str (Pa.zText p) := ⟨_, rfl⟩
 obtain ⟨b1, hb1⟩ : ∃ b1, b1 = (T (Pa.zText p)).isSome := ⟨_, rfl⟩
 have hlen : (Pa.zText p).length ≤ 100000000000 := by have := Pa.zText_len hp.wide; omega
 obtain ⟨k, al, nl, cl, ak, nk, ck, nx, ab, nb, cb, ao, no, co, ca, ae, ne, ce, ri, am, nm, cm, hv⟩ := hsh
 have HLk : Hid (∀ W, Below w.heap.size w W → (Instr.lookup 72 (.map (some b)) (.string S) true).run Tryz.prog W = .ok (.tuple #[.agg #[.int .i64 k, .slice al nl cl, .slice ak nk ck, .int .i64 nx, .slice ab nb cb, .slice ao no co, .int .i64 ca, .slice ae ne ce, .int .i64 ri, .slice am nm cm], .bool b1]) W) := fun W h => by
   rw [hS, ← hv, hb1]
   exact (hm.on h).look hlen
 have H68 : Hid (∀ W, Below w.heap.size w W → Calls Tryz.prog 68 #[.slice A p.length c] W fun e w' => e = .returned (.string S) ∧ Below w.heap.size w w' ∧ Below W.heap.size W w') := fun W h => by
   rw [hS]
   exact (Pa.text_any (he.on h) (hp.on h).zs hp.wide hn).mono fun e w' h2 => ⟨h2.1, h.trans (h2.2.mono h.size), h2.2⟩
 rw [hv, ← hb1]
 have HT := Lib.hid ht
 have htlt := World.block_lt_of_cell? w _ ht
 have HA : Hid (Below w.heap.size w (w.alloc (.cells #[.int .i64 0, .slice none 0 0, .slice none 0 0, .int .i64 0, .slice none 0 0, .slice none 0 0, .int .i64 0, .slice none 0 0, .int .i64 0, .slice none 0 0] 29))) := (Below.refl _ _).alloc (Nat.le_refl _) _
 clear he hp hm hS hb1 hv ht
 go_enter Tryz.func75, Tryz.ntmps75
 go_wp2_with fail
 have mk : ∀ W, Below w.heap.size w W → Below w.heap.size w W ∧ W.cell? ⟨t, 0, none⟩ = some (.map (some b)) ∧ (Instr.lookup 72 (.map (some b)) (.string S) true).run Tryz.prog W = .ok (.tuple #[.agg #[.int .i64 k, .slice al nl cl, .slice ak nk ck, .int .i64 nx, .slice ab nb cb, .slice ao no co, .int .i64 ca, .slice ae ne ce, .int .i64 ri, .slice am nm cm], .bool b1]) W :=
   fun W h => ⟨h, (h.cell (p := ⟨t, 0, none⟩) htlt).trans HT.out, HLk.out _ h⟩
 go_cut [6, 7] from 11 to 20 (fun s6 s7 wc => ∃ N : Nat, s6 = .pointer (some ⟨N, 0, none⟩) ∧ s7 = .bool b1 ∧ BoxAt wc N #[.int .i64 k, .slice al nl cl, .slice ak nk ck, .int .i64 nx, .slice ab nb cb, .slice ao no co, .int .i64 ca, .slice ae ne ce, .int .i64 ri, .slice am nm cm] 29 ∧ BoxAt wc w.heap.size #[.int .i64 0, .slice none 0 0, .slice none 0 0, .int .i64 0, .slice none 0 0, .slice none 0 0, .int .i64 0, .slice none 0 0, .int .i64 0, .slice none 0 0] 29 ∧ N ≠ w.heap.size ∧ Below w.heap.size w wc)
 case first =>
  go_region_held3 (fun W => Below w.heap.size w W ∧ W.cell? ⟨t, 0, none⟩ = some (.map (some b)) ∧ (Instr.lookup 72 (.map (some b)) (.string S) true).run Tryz.prog W = .ok (.tuple #[.agg #[.int .i64 k, .slice al nl cl, .slice ak nk ck, .int .i64 nx, .slice ab nb cb, .slice ao no co, .int .i64 ca, .slice ae ne ce, .int .i64 ri, .slice am nm cm], .bool b1]) W)
   (first
     | with_reducible exact mk _ (hBst _ _ _ _ _ _ _ _ _ _)
     | with_reducible exact mk _ hbA
     | with_reducible exact mk _ (hbA.alloc hbA.size _)
     | with_reducible exact mk _ HA.out.drew
     | with_reducible exact mk _ (HA.out.alloc (by simp) _).drew)
   (first
     | (go_at_call 68; refine (H68.out _ HA.out.drew).mono ?_; rintro e W1 ⟨rfl, hbA, hbC⟩; have bz := (BoxAt.drew (BoxAt.new w #[.int .i64 0, .slice none 0 0, .slice none 0 0, .int .i64 0, .slice none 0 0, .slice none 0 0, .int .i64 0, .slice none 0 0, .int .i64 0, .slice none 0 0] 29)).on hbC)
     | (go_at_call 68; refine (H68.out _ (HA.out.alloc (by simp) _).drew).mono ?_; rintro e W1 ⟨rfl, hbA, hbC⟩; have bz := (BoxAt.drew ((BoxAt.new w #[.int .i64 0, .slice none 0 0, .slice none 0 0, .int .i64 0, .slice none 0 0, .slice none 0 0, .int .i64 0, .slice none 0 0, .int .i64 0, .slice none 0 0] 29).alloc (.cells #[.int .i64 0, .slice none 0 0, .slice none 0 0, .int .i64 0, .slice none 0 0, .slice none 0 0, .int .i64 0, .slice none 0 0, .int .i64 0, .slice none 0 0] 29))).on hbC; have bx : BoxAt W1 (w.heap.size + 1) #[.int .i64 0, .slice none 0 0, .slice none 0 0, .int .i64 0, .slice none 0 0, .slice none 0 0, .int .i64 0, .slice none 0 0, .int .i64 0, .slice none 0 0] 29 := (by have bq := (BoxAt.drew (BoxAt.new (w.alloc (.cells #[.int .i64 0, .slice none 0 0, .slice none 0 0, .int .i64 0, .slice none 0 0, .slice none 0 0, .int .i64 0, .slice none 0 0, .int .i64 0, .slice none 0 0] 29)) #[.int .i64 0, .slice none 0 0, .slice none 0 0, .int .i64 0, .slice none 0 0, .slice none 0 0, .int .i64 0, .slice none 0 0, .int .i64 0, .slice none 0 0] 29)).on hbC; simpa using bq); obtain ⟨q0, q1, q2, q3, q4, q5, q6, q7, q8, q9⟩ := box10 bx; have fr := bx.frozen; have hBst := fun v0 v1 v2 v3 v4 v5 v6 v7 v8 v9 => show Below w.heap.size w ((((((((((W1.setCell ⟨w.heap.size + 1, 0, none⟩ v0).setCell ⟨w.heap.size + 1, 1, none⟩ v1).setCell ⟨w.heap.size + 1, 2, none⟩ v2).setCell ⟨w.heap.size + 1, 3, none⟩ v3).setCell ⟨w.heap.size + 1, 4, none⟩ v4).setCell ⟨w.heap.size + 1, 5, none⟩ v5).setCell ⟨w.heap.size + 1, 6, none⟩ v6).setCell ⟨w.heap.size + 1, 7, none⟩ v7).setCell ⟨w.heap.size + 1, 8, none⟩ v8).setCell ⟨w.heap.size + 1, 9, none⟩ v9) from below_put10 hbA (Nat.le_succ _) v0 v1 v2 v3 v4 v5 v6 v7 v8 v9))
  · go_wp2_with fail
    go_meet
    case rel =>
      have hs := hbA.size
      exact ⟨_, rfl, rfl, BoxAt.new _ _ _, bz.alloc _, by have := bz.lt; omega, hbA.alloc hs _⟩
  · go_wp2_with fail
    go_meet
    case rel =>
      have hs := hbA.size
      exact ⟨_, rfl, rfl, BoxAt.new _ _ _, bz.alloc _, by have := bz.lt; omega, hbA.alloc hs _⟩
  · go_wp2_with fail
    go_meet
    case rel =>
      exact ⟨_, rfl, rfl, bx.set10 _ _ _ _ _ _ _ _ _ _, bz.far10 (by omega) _ _ _ _ _ _ _ _ _ _, by omega, hBst _ _ _ _ _ _ _ _ _ _⟩
 case rest =>
  obtain ⟨N, rfl, rfl, bn, bz, hne, hb⟩ := hcut
  obtain ⟨q0, q1, q2, q3, q4, q5, q6, q7, q8, q9⟩ := box10 bn
  obtain ⟨r0, r1, r2, r3, r4, r5, r6, r7, r8, r9⟩ := box10 bz
  have fr := bz.frozen
  have HB := Lib.hid hb
  have BZ := Lib.hid bz
  clear bn bz hb mk
  go_wp2_with fail
  (try simp only [Exit.inBlock, Exit.then])
  refine bodyPost_ret (v := .tuple #[.agg #[.int .i64 k, .slice al nl cl, .slice ak nk ck, .int .i64 nx, .slice ab nb cb, .slice ao no co, .int .i64 ca, .slice ae ne ce, .int .i64 ri, .slice am nm cm], .bool b1]) ?_ rfl ⟨rfl, ?_⟩
  · rw [results_cell_tmp rfl]
    have hx := BZ.out.set10 (.int .i64 k) (.slice al nl cl) (.slice ak nk ck) (.int .i64 nx) (.slice ab nb cb) (.slice ao no co) (.int .i64 ca) (.slice ae ne ce) (.int .i64 ri) (.slice am nm cm)
    obtain ⟨q0, q1, q2, q3, q4, q5, q6, q7, q8, q9⟩ := box10 hx
    unfold put10 at q0 q1 q2 q3 q4 q5 q6 q7 q8 q9
    go_simp
  · exact below_put10 HB.out (Nat.le_refl _) _ _ _ _ _ _ _ _ _ _
end Go.Proofs.YtgcbfggoddkhnaaGreatDoor
