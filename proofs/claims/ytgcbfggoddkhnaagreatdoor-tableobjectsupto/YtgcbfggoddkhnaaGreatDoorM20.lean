/- Lemmas for the law: Zm, QB, QD, QPs. -/
import Derived.Test.YtgcbfggoddkhnaaGreatDoorM13
import Derived.Test.YtgcbfggoddkhnaaGreatDoorM09
import Derived.RangeFuncNested
import Derived.RangeFuncBound
import Derived.RangeFuncLeaves
import Derived.Test.YtgcbfggoddkhnaaGreatDoorM01
import Derived.RangeFuncCalls
import Derived.Shelf.Abstract
import Derived.Shelf.RegionOpen
import Derived.OwnWalkIn
import Derived.TacticsInMore
import Derived.LoopNIn
import Derived.LoopIn
import Derived.Test.YtgcbfggoddkhnaaGreatDoorM07
import Derived.Maps.AppendAt
import Derived.Laws.OwnMore
namespace Go.Proofs.YtgcbfggoddkhnaaGreatDoor
open Go.RowKit
open Pa (encZ zBytes)
def KdF (w : World) (F : Nat → Prop) (g : Nat) (p : List Nat) (l : List Kd) (k : Nat) (i : Value) (wr : World) : Prop :=
 ∃ m, m + k = l.length ∧ i = .int .i64 (m : Int) ∧ StepF w F g (p ++ (l.take m).flatMap kidBytes) wr
def MpF (w : World) (F : Nat → Prop) (g : Nat) (p : List Nat) (l : List Mp) (k : Nat) (i : Value) (wr : World) : Prop :=
 ∃ m, m + k = l.length ∧ i = .int .i64 (m : Int) ∧ StepF w F g (p ++ (l.take m).flatMap mapBytes) wr
set_option maxRecDepth 100000 in
set_option maxHeartbeats 4000000 in
theorem tput_any {w : World} {F : Nat → Prop} {g : Nat} {p : List Nat} {v : Value} {o : Ob} (hp : PenF w F g p) (hv : ObjAt w F v o) (hw : WideO o) (hb : (p ++ obBytes o).length ≤ 80000000) :
  Calls Tryz.prog 12 #[.pointer (some ⟨g, 0, none⟩), v] w fun e w' => e = .returned (.tuple #[]) ∧ StepF w F g (p ++ obBytes o) w' := by
 obtain ⟨vk, ⟨vl, vb, vo, ve, vm, rfl, hl, hbs, ho, hen, hms⟩, hk⟩ := hv
 obtain ⟨Al, cl, rfl, -⟩ := id hl
 obtain ⟨Ab, cb, rfl, -⟩ := id hbs
 obtain ⟨Ao, co, rfl, -⟩ := id ho
 obtain ⟨Ae, ce, rfl, -⟩ := id hen
 obtain ⟨Am, cm, rfl, -⟩ := id hms
 obtain ⟨Ak, ck, rfl, -⟩ := id hk
 obtain ⟨cx, hcx⟩ : ∃ cs : Array Value, cs = #[.int .i64 o.kind, .slice Al o.lab.length cl, .slice Ak o.kids.length ck, .int .i64 o.next, .slice Ab o.bytes.length cb, .slice Ao o.own.length co, .int .i64 o.cats, .slice Ae o.entry.length ce, .int .i64 o.ring, .slice Am o.maps.length cm] := ⟨_, rfl⟩
 have hal := (Below.refl w.heap.size w).alloc (Nat.le_refl _) (.cells cx 29)
 obtain ⟨w0, hw0⟩ : ∃ W, W = w.alloc (.cells cx 29) := ⟨_, rfl⟩
 have hX0 := BoxAt.new w cx 29
 rw [← hw0] at hal hX0
 have hp0 := hp.on hal
 have hnF : ¬ F w.heap.size := fun h => by
  obtain ⟨_, _, _, _, hlt⟩ := hp
  have := hlt _ h
  omega
 have HNF := Lib.hid hnF
 have HLAB := Lib.hid (hl.on hal fun _ _ h => h)
 have HBS := Lib.hid (hbs.on hal fun _ _ h => h)
 have HOW := Lib.hid (ho.on hal fun _ _ h => h)
 have HEN := Lib.hid (hen.on hal fun _ _ h => h)
 have HMS := Lib.hid (hms.on hal fun _ _ h => h)
 have HKS := Lib.hid (hk.on hal fun _ _ h => h)
 have HAL := Lib.hid hal
 have HWD := Lib.hid hw
 have X0 := Lib.hid hX0
 have CX := Lib.hid hcx
 have hnk : encZ (o.kids.length : Int) = Tp.enc o.kids.length := by have := hw.kids.1; unfold encZ; rw [if_pos (by omega)]; simp
 have hnm : encZ (o.maps.length : Int) = Tp.enc o.maps.length := by have := hw.maps.1; unfold encZ; rw [if_pos (by omega)]; simp
 have htx : Tp.txt (Tp.str o.bytes) = Tp.enc o.bytes.length ++ o.bytes := by unfold Tp.txt; rw [Tp.str_size, Tp.bys_str hw.bytes.2]
 obtain ⟨q1, hq1⟩ : ∃ q, q = p ++ encZ o.kind := ⟨_, rfl⟩
 obtain ⟨q2, hq2⟩ : ∃ q, q = q1 ++ labBytes o.lab := ⟨_, rfl⟩
 obtain ⟨q3, hq3⟩ : ∃ q, q = q2 ++ encZ (o.kids.length : Int) := ⟨_, rfl⟩
 obtain ⟨q4, hq4⟩ : ∃ q, q = q3 ++ o.kids.flatMap kidBytes := ⟨_, rfl⟩
 obtain ⟨q5, hq5⟩ : ∃ q, q = q4 ++ encZ o.next := ⟨_, rfl⟩
 obtain ⟨q6, hq6⟩ : ∃ q, q = q5 ++ Tp.txt (Tp.str o.bytes) := ⟨_, rfl⟩
 obtain ⟨q7, hq7⟩ : ∃ q, q = q6 ++ ownBytes o.own := ⟨_, rfl⟩
 obtain ⟨q8, hq8⟩ : ∃ q, q = q7 ++ encZ o.cats := ⟨_, rfl⟩
 obtain ⟨q9, hq9⟩ : ∃ q, q = q8 ++ labBytes o.entry := ⟨_, rfl⟩
 obtain ⟨q10, hq10⟩ : ∃ q, q = q9 ++ encZ o.ring := ⟨_, rfl⟩
 obtain ⟨q11, hq11⟩ : ∃ q, q = q10 ++ encZ (o.maps.length : Int) := ⟨_, rfl⟩
 obtain ⟨q12, hq12⟩ : ∃ q, q = q11 ++ o.maps.flatMap mapBytes := ⟨_, rfl⟩
 have hall : q12 = p ++ obBytes o := by
  rw [hq12, hq11, hq10, hq9, hq8, hq7, hq6, hq5, hq4, hq3, hq2, hq1, hnk, hnm, htx]
  unfold obBytes
  simp only [List.append_assoc]
 rw [← hall] at hb
 rw [← hall]
 have hb11 : q11.length ≤ 80000000 := by have h := congrArg List.length hq12; rw [List.length_append] at h; omega
 have hb10 : q10.length ≤ 80000000 := by have h := congrArg List.length hq11; rw [List.length_append] at h; have := hb11; omega
 have hb9 : q9.length ≤ 80000000 := by have h := congrArg List.length hq10; rw [List.length_append] at h; have := hb10; omega
 have hb8 : q8.length ≤ 80000000 := by have h := congrArg List.length hq9; rw [List.length_append] at h; have := hb9; omega
 have hb7 : q7.length ≤ 80000000 := by have h := congrArg List.length hq8; rw [List.length_append] at h; have := hb8; omega
 have hb6 : q6.length ≤ 80000000 := by have h := congrArg List.length hq7; rw [List.length_append] at h; have := hb7; omega
 have hb5 : q5.length ≤ 80000000 := by have h := congrArg List.length hq6; rw [List.length_append] at h; have := hb6; omega
 have hb4 : q4.length ≤ 80000000 := by have h := congrArg List.length hq5; rw [List.length_append] at h; have := hb5; omega
 have hb3 : q3.length ≤ 80000000 := by have h := congrArg List.length hq4; rw [List.length_append] at h; have := hb4; omega
 have hb2 : q2.length ≤ 80000000 := by have h := congrArg List.length hq3; rw [List.length_append] at h; have := hb3; omega
 have hb1 : q1.length ≤ 80000000 := by have h := congrArg List.length hq2; rw [List.length_append] at h; have := hb2; omega
 have hb0 : p.length ≤ 80000000 := by have h := congrArg List.length hq1; rw [List.length_append] at h; have := hb1; omega
 have HBK : Hid (∀ m, (q3 ++ (o.kids.take m).flatMap kidBytes).length ≤ 80000000) := fun m => by
  have h := congrArg List.length hq4
  have := flat_take kidBytes o.kids m
  rw [List.length_append] at h ⊢
  omega
 have HBM : Hid (∀ m, (q11 ++ (o.maps.take m).flatMap mapBytes).length ≤ 80000000) := fun m => by
  have h := congrArg List.length hq12
  have := flat_take mapBytes o.maps m
  rw [List.length_append] at h ⊢
  omega
 have HQ1 := Lib.hid hq1
 have HQ2 := Lib.hid hq2
 have HQ3 := Lib.hid hq3
 have HQ4 := Lib.hid hq4
 have HQ5 := Lib.hid hq5
 have HQ6 := Lib.hid hq6
 have HQ7 := Lib.hid hq7
 have HQ8 := Lib.hid hq8
 have HQ9 := Lib.hid hq9
 have HQ10 := Lib.hid hq10
 have HQ11 := Lib.hid hq11
 have HQ12 := Lib.hid hq12
 have HL0 := Lib.hid hb0
 have HL1 := Lib.hid hb1
 have HL2 := Lib.hid hb2
 have HL3 := Lib.hid hb3
 have HL4 := Lib.hid hb4
 have HL5 := Lib.hid hb5
 have HL6 := Lib.hid hb6
 have HL7 := Lib.hid hb7
 have HL8 := Lib.hid hb8
 have HL9 := Lib.hid hb9
 have HL10 := Lib.hid hb10
 have HL11 := Lib.hid hb11
 have HTX := Lib.hid htx
 have hkl := hw.kids.1
 have hml := hw.maps.1
 have S0 : Hid (Stp w0 F w0 F) := Stp.of_below (Below.refl _ _)
 have P0 := Lib.hid hp0
 have x0 := X0.out
 rw [CX.out] at x0
 obtain ⟨k0, k1, k2, k3, k4, k5, k6, k7, k8, k9⟩ := box10 x0
 clear hp hl hbs ho hen hms hk hw hal hX0 hp0 hnF hcx hnk hnm htx hall hb hq1 hq2 hq3 hq4 hq5 hq6 hq7 hq8 hq9 hq10 hq11 hq12 hb0 hb1 hb2 hb3 hb4 hb5 hb6 hb7 hb8 hb9 hb10 hb11 x0
 rw [CX.out] at hw0
 go_enter Tryz.func12, Tryz.ntmps12
 have H1 := Lib.hid (penF_num (z := o.kind) P0.out HL0.out)
 go_wp2_with fail
 rw [← hw0]
 refine H1.out.mono ?_
 rintro e w1 ⟨⟨b0, rfl⟩, F1, hp1, hs1⟩
 have S1 := Lib.hid (S0.out.trans hs1)
 have P1 : Hid (PenF w1 F1 g q1) := by rw [HQ1.out]; exact hp1
 clear k0 k1 k2 k3 k4 k5 k6 k7 k8 k9
 have x1 := X0.out.kp S1.out.1 HNF.out
 rw [CX.out] at x1
 obtain ⟨k0, k1, k2, k3, k4, k5, k6, k7, k8, k9⟩ := box10 x1
 clear x1 hp1 hs1 H1
 have H2 := Lib.hid (labelPut_any P1.out (HLAB.out.stp S1.out) (by have := HWD.out.lab.1; omega) (fun e he => by have := (HWD.out.lab.2 e he).1; omega) (by rw [← HQ2.out]; exact HL2.out))
 go_wp2_with fail
 refine H2.out.mono ?_
 rintro e w2 ⟨rfl, F2, hp2, hs2⟩
 have S2 := Lib.hid (S1.out.trans hs2)
 have P2 : Hid (PenF w2 F2 g q2) := by rw [HQ2.out]; exact hp2
 clear k0 k1 k2 k3 k4 k5 k6 k7 k8 k9
 have x2 := X0.out.kp S2.out.1 HNF.out
 rw [CX.out] at x2
 obtain ⟨k0, k1, k2, k3, k4, k5, k6, k7, k8, k9⟩ := box10 x2
 clear x2 hp2 hs2 H2
 have H3 := Lib.hid (penF_num (z := (o.kids.length : Int)) P2.out HL2.out)
 go_wp2_with fail
 refine H3.out.mono ?_
 rintro e w3 ⟨⟨b0, rfl⟩, F3, hp3, hs3⟩
 have S3 := Lib.hid (S2.out.trans hs3)
 have P3 : Hid (PenF w3 F3 g q3) := by rw [HQ3.out]; exact hp3
 clear k0 k1 k2 k3 k4 k5 k6 k7 k8 k9
 have x3 := X0.out.kp S3.out.1 HNF.out
 rw [CX.out] at x3
 obtain ⟨k0, k1, k2, k3, k4, k5, k6, k7, k8, k9⟩ := box10 x3
 clear x3 hp3 hs3 H3
 go_wp2_with fail
 go_loopg [24] o.kids.length (fun k i wr => KdF w0 F g q3 o.kids k i wr)
 case atStart => exact ⟨0, by simp, rfl, F3, by simpa using P3.out, S3.out⟩
 case round =>
  obtain ⟨m, hmk, hi, F4, hp4, hs4⟩ := hrel
  subst hi
  cases gk with
  | succ j =>
   have hm : m < o.kids.length := by omega
   obtain ⟨⟨a1, a2, a3⟩, hx⟩ : ∃ x, o.kids[m]? = some x := ⟨_, List.getElem?_eq_getElem hm⟩
   obtain ⟨A', c', hAe, -, -, hsk⟩ := HKS.out.stp hs4
   injection hAe with e1 _ e3
   subst e1 e3
   obtain ⟨b, off, rfl, -, hlt, hcells⟩ := hsk (by rw [kidCells_length]; omega)
   obtain ⟨e1, e2, e3⟩ := kidCells_at hx
   have d1 := hcells _ _ e1
   have d2 := hcells _ _ e2
   have d3 := hcells _ _ e3
   rw [← Nat.add_assoc] at d2 d3
   have HM := Lib.hid hmk
   obtain ⟨pb, hpb⟩ : ∃ pb, pb = q3 ++ (o.kids.take m).flatMap kidBytes := ⟨_, rfl⟩
   obtain ⟨pc, hpc⟩ : ∃ pc, pc = pb ++ encZ a1 := ⟨_, rfl⟩
   obtain ⟨pd, hpd⟩ : ∃ pd, pd = pc ++ encZ a2 := ⟨_, rfl⟩
   have HPB : Hid (pd ++ encZ a3 = q3 ++ (o.kids.take (m + 1)).flatMap kidBytes) := by
    unfold Hid
    rw [List.take_add_one, hx, List.flatMap_append, hpd, hpc, hpb]
    simp [kidBytes]
   have l3 := HBK.out (m + 1)
   rw [← HPB.out, List.length_append] at l3
   have l2 : pd.length ≤ 80000000 := by omega
   have l1 : pc.length ≤ 80000000 := by rw [hpd, List.length_append] at l2; omega
   have l0 : pb.length ≤ 80000000 := by rw [hpc, List.length_append] at l1; omega
   rw [← hpb] at hp4
   have hal := (Below.refl wr.heap.size wr).alloc (Nat.le_refl _) (.cells #[.int .i64 a1, .int .i64 a2, .int .i64 a3] 85)
   have Y0 := Lib.hid (BoxAt.new wr #[.int .i64 a1, .int .i64 a2, .int .i64 a3] 85)
   have HNF2 : Hid (¬ F4 wr.heap.size) := fun h => by
    obtain ⟨_, _, _, _, hlt⟩ := hp4
    have := hlt _ h
    omega
   have J1 := Lib.hid (penF_num (z := a1) (hp4.on hal) l0)
   rw [← hpc] at J1
   have HL1 := Lib.hid l1
   have HL2 := Lib.hid l2
   have HPD := Lib.hid hpd
   have S4 : Hid (Stp w0 F (wr.alloc (.cells #[.int .i64 a1, .int .i64 a2, .int .i64 a3] 85)) F4) := hs4.trans (Stp.of_below hal)
   clear hp4 hs4 hsk hcells e1 e2 e3 hx hmk hpb hpc hpd l0 l1 l2 l3 hal
   go_wp2_with fail
   refine J1.out.mono ?_
   rintro e w5 ⟨⟨b1, rfl⟩, F5, hp5, hs5⟩
   have y5 := Y0.out.kp hs5.1 HNF2.out
   have n5 : Hid (¬ F5 wr.heap.size) := fun h => (hs5.2 _ h).elim HNF2.out (fun h => absurd Y0.out.lt (Nat.not_lt.2 h))
   have S5 := Lib.hid (S4.out.trans hs5)
   have g2 := y5.cell (k := 1) rfl
   have J2 := Lib.hid (penF_num (z := a2) hp5 HL1.out)
   rw [← HPD.out] at J2
   have Y5 := Lib.hid y5
   clear hp5 hs5 y5 J1 d1 d2 d3
   go_wp2_with fail
   refine J2.out.mono ?_
   rintro e w6 ⟨⟨b2, rfl⟩, F6, hp6, hs6⟩
   have y6 := Y5.out.kp hs6.1 n5.out
   have S6 := Lib.hid (S5.out.trans hs6)
   have g3 := y6.cell (k := 2) rfl
   have J3 := Lib.hid (penF_num (z := a3) hp6 HL2.out)
   rw [HPB.out] at J3
   clear hp6 hs6 y6 J2 g2
   go_wp2_with fail
   refine J3.out.mono ?_
   rintro e w7 ⟨⟨b3, rfl⟩, h7⟩
   have H7 := Lib.hid (PenF.then S6.out h7)
   clear h7 J3 g3
   go_wp2_with fail
   go_roundg j
   case measure => omega
   case rel => exact ⟨m + 1, by have := HM.out; omega, by go_num, H7.out⟩
  | zero =>
   have hge : o.kids.length ≤ m := by omega
   rw [List.take_of_length_le hge, ← HQ4.out] at hp4
   have P4 := Lib.hid hp4
   have S4 := Lib.hid hs4
   obtain ⟨w4, hw4⟩ : ∃ W, W = wr := ⟨_, rfl⟩
   subst hw4
   clear k0 k1 k2 k3 k4 k5 k6 k7 k8 k9
   have x4 := X0.out.kp S4.out.1 HNF.out
   rw [CX.out] at x4
   obtain ⟨k0, k1, k2, k3, k4, k5, k6, k7, k8, k9⟩ := box10 x4
   clear x4 hp4 hs4
   have H5 := Lib.hid (penF_num (z := o.next) P4.out HL4.out)
   go_wp2_with fail
   refine H5.out.mono ?_
   rintro e w5 ⟨⟨b0, rfl⟩, F5, hp5, hs5⟩
   have S5 := Lib.hid (S4.out.trans hs5)
   have P5 : Hid (PenF w5 F5 g q5) := by rw [HQ5.out]; exact hp5
   clear k0 k1 k2 k3 k4 k5 k6 k7 k8 k9
   have x5 := X0.out.kp S5.out.1 HNF.out
   rw [CX.out] at x5
   obtain ⟨k0, k1, k2, k3, k4, k5, k6, k7, k8, k9⟩ := box10 x5
   clear x5 hp5 hs5 H5
   have H6 := Lib.hid (penF_txt (s := Tp.str o.bytes) P5.out HL5.out (by rw [Tp.str_size]; have := HWD.out.bytes.1; omega))
   have hcv : (convert 25 9 (.slice Ab o.bytes.length cb)).run Tryz.prog w5 = .ok (.string (Tp.str o.bytes)) w5 := by
    obtain ⟨A', c', hAe, -, -, hsb⟩ := HBS.out.stp S5.out
    injection hAe with e1 _ e3
    subst e1 e3
    exact Tp.conv_str hsb.bts cb
   go_wp2_with fail
   refine H6.out.mono ?_
   rintro e w6 ⟨rfl, F6, hp6, hs6⟩
   have S6 := Lib.hid (S5.out.trans hs6)
   have P6 : Hid (PenF w6 F6 g q6) := by rw [HQ6.out]; exact hp6
   clear k0 k1 k2 k3 k4 k5 k6 k7 k8 k9
   have x6 := X0.out.kp S6.out.1 HNF.out
   rw [CX.out] at x6
   obtain ⟨k0, k1, k2, k3, k4, k5, k6, k7, k8, k9⟩ := box10 x6
   clear x6 hp6 hs6 H6
   clear hcv
   have H7 := Lib.hid (ownsPut_any P6.out (HOW.out.stp S6.out) (by have := HWD.out.own.1; omega) (fun x hx => by have := HWD.out.own.2 x hx; omega) (by rw [← HQ7.out]; exact HL7.out))
   go_wp2_with fail
   refine H7.out.mono ?_
   rintro e w7 ⟨rfl, F7, hp7, hs7⟩
   have S7 := Lib.hid (S6.out.trans hs7)
   have P7 : Hid (PenF w7 F7 g q7) := by rw [HQ7.out]; exact hp7
   clear k0 k1 k2 k3 k4 k5 k6 k7 k8 k9
   have x7 := X0.out.kp S7.out.1 HNF.out
   rw [CX.out] at x7
   obtain ⟨k0, k1, k2, k3, k4, k5, k6, k7, k8, k9⟩ := box10 x7
   clear x7 hp7 hs7 H7
   have H8 := Lib.hid (penF_num (z := o.cats) P7.out HL7.out)
   go_wp2_with fail
   refine H8.out.mono ?_
   rintro e w8 ⟨⟨b0, rfl⟩, F8, hp8, hs8⟩
   have S8 := Lib.hid (S7.out.trans hs8)
   have P8 : Hid (PenF w8 F8 g q8) := by rw [HQ8.out]; exact hp8
   clear k0 k1 k2 k3 k4 k5 k6 k7 k8 k9
   have x8 := X0.out.kp S8.out.1 HNF.out
   rw [CX.out] at x8
   obtain ⟨k0, k1, k2, k3, k4, k5, k6, k7, k8, k9⟩ := box10 x8
   clear x8 hp8 hs8 H8
   have H9 := Lib.hid (labelPut_any P8.out (HEN.out.stp S8.out) (by have := HWD.out.entry.1; omega) (fun e he => by have := (HWD.out.entry.2 e he).1; omega) (by rw [← HQ9.out]; exact HL9.out))
   go_wp2_with fail
   refine H9.out.mono ?_
   rintro e w9 ⟨rfl, F9, hp9, hs9⟩
   have S9 := Lib.hid (S8.out.trans hs9)
   have P9 : Hid (PenF w9 F9 g q9) := by rw [HQ9.out]; exact hp9
   clear k0 k1 k2 k3 k4 k5 k6 k7 k8 k9
   have x9 := X0.out.kp S9.out.1 HNF.out
   rw [CX.out] at x9
   obtain ⟨k0, k1, k2, k3, k4, k5, k6, k7, k8, k9⟩ := box10 x9
   clear x9 hp9 hs9 H9
   have H10 := Lib.hid (penF_num (z := o.ring) P9.out HL9.out)
   go_wp2_with fail
   refine H10.out.mono ?_
   rintro e w10 ⟨⟨b0, rfl⟩, F10, hp10, hs10⟩
   have S10 := Lib.hid (S9.out.trans hs10)
   have P10 : Hid (PenF w10 F10 g q10) := by rw [HQ10.out]; exact hp10
   clear k0 k1 k2 k3 k4 k5 k6 k7 k8 k9
   have x10 := X0.out.kp S10.out.1 HNF.out
   rw [CX.out] at x10
   obtain ⟨k0, k1, k2, k3, k4, k5, k6, k7, k8, k9⟩ := box10 x10
   clear x10 hp10 hs10 H10
   have H11 := Lib.hid (penF_num (z := (o.maps.length : Int)) P10.out HL10.out)
   go_wp2_with fail
   refine H11.out.mono ?_
   rintro e w11 ⟨⟨b0, rfl⟩, F11, hp11, hs11⟩
   have S11 := Lib.hid (S10.out.trans hs11)
   have P11 : Hid (PenF w11 F11 g q11) := by rw [HQ11.out]; exact hp11
   clear k0 k1 k2 k3 k4 k5 k6 k7 k8 k9
   have x11 := X0.out.kp S11.out.1 HNF.out
   rw [CX.out] at x11
   obtain ⟨k0, k1, k2, k3, k4, k5, k6, k7, k8, k9⟩ := box10 x11
   clear x11 hp11 hs11 H11
   go_wp2_with fail
   go_loopg [74] o.maps.length (fun k i wr => MpF w0 F g q11 o.maps k i wr)
   case atStart => exact ⟨0, by simp, rfl, F11, by simpa using P11.out, S11.out⟩
   case round =>
    obtain ⟨m, hmk, hi, F12, hp12, hs12⟩ := hrel
    subst hi
    cases gk with
    | zero =>
     have hge : o.maps.length ≤ m := by omega
     rw [List.take_of_length_le hge, ← HQ12.out] at hp12
     have HF : Hid (StepF w F g q12 wr) := PenF.then (Stp.of_below HAL.out) ⟨F12, hp12, hs12⟩
     clear hp12 hs12
     go_wp2_with fail
     go_end0
     exact ⟨rfl, HF.out⟩
    | succ j =>
     have hm : m < o.maps.length := by omega
     obtain ⟨⟨a1, a2, a3⟩, hx⟩ : ∃ x, o.maps[m]? = some x := ⟨_, List.getElem?_eq_getElem hm⟩
     obtain ⟨A', c', hAe, -, -, hsk⟩ := HMS.out.stp hs12
     injection hAe with e1 _ e3
     subst e1 e3
     obtain ⟨b, off, rfl, -, hlt, hcells⟩ := hsk (by omega)
     obtain ⟨d1, ⟨sv, d2, hsv⟩, d3⟩ := hcells m _ hx
     simp only at d1 d2 hsv d3
     obtain ⟨Asg, csg, rfl, -⟩ := id hsv
     have HM := Lib.hid hmk
     obtain ⟨pb, hpb⟩ : ∃ pb, pb = q11 ++ (o.maps.take m).flatMap mapBytes := ⟨_, rfl⟩
     obtain ⟨pc, hpc⟩ : ∃ pc, pc = pb ++ encZ a1 := ⟨_, rfl⟩
     obtain ⟨pd, hpd⟩ : ∃ pd, pd = pc ++ zBytes a2 := ⟨_, rfl⟩
     have HPB : Hid (pd ++ encZ (if a3 then 1 else 0) = q11 ++ (o.maps.take (m + 1)).flatMap mapBytes) := by
      unfold Hid
      rw [List.take_add_one, hx, List.flatMap_append, hpd, hpc, hpb]
      simp [mapBytes]
     have hal2 : a2.length ≤ 10000000 := by have := (HWD.out.maps.2 _ (List.mem_of_getElem? hx)).2.1; simp only at this; omega
     have l3 := HBM.out (m + 1)
     rw [← HPB.out, List.length_append] at l3
     have l2 : pd.length ≤ 80000000 := by omega
     have l1 : pc.length ≤ 80000000 := by rw [hpd, List.length_append] at l2; omega
     have l0 : pb.length ≤ 80000000 := by rw [hpc, List.length_append] at l1; omega
     rw [← hpb] at hp12
     have hal := (Below.refl wr.heap.size wr).alloc (Nat.le_refl _) (.cells #[.int .i64 a1, .slice Asg a2.length csg, .bool a3] 45)
     have Y0 := Lib.hid (BoxAt.new wr #[.int .i64 a1, .slice Asg a2.length csg, .bool a3] 45)
     have HNF2 : Hid (¬ F12 wr.heap.size) := fun h => by
      obtain ⟨_, _, _, _, hlt⟩ := hp12
      have := hlt _ h
      omega
     have J1 := Lib.hid (penF_num (z := a1) (hp12.on hal) l0)
     rw [← hpc] at J1
     have HL1 := Lib.hid l1
     have HL2x := Lib.hid l2
     have HPD := Lib.hid hpd
     have HSV := Lib.hid (hsv.on hal fun _ _ h => h)
     have S12 : Hid (Stp w0 F (wr.alloc (.cells #[.int .i64 a1, .slice Asg a2.length csg, .bool a3] 45)) F12) := hs12.trans (Stp.of_below hal)
     clear hp12 hs12 hsk hcells hsv hx hmk hpb hpc hpd l0 l1 l2 l3 hal
     go_wp2_with fail
     refine J1.out.mono ?_
     rintro e w13 ⟨⟨b1, rfl⟩, F13, hp13, hs13⟩
     have y13 := Y0.out.kp hs13.1 HNF2.out
     have n13 : Hid (¬ F13 wr.heap.size) := fun h => (hs13.2 _ h).elim HNF2.out (fun h => absurd Y0.out.lt (Nat.not_lt.2 h))
     have S13 := Lib.hid (S12.out.trans hs13)
     have g2 := y13.cell (k := 1) rfl
     have J2 := Lib.hid (pathPut_any hp13 (HSV.out.stp hs13) hal2 (by rw [← HPD.out]; exact HL2x.out))
     rw [← HPD.out] at J2
     have Y13 := Lib.hid y13
     clear hp13 hs13 y13 J1 d1 d2 d3
     go_wp2_with fail
     refine J2.out.mono ?_
     rintro e w14 ⟨rfl, F14, hp14, hs14⟩
     have y14 := Y13.out.kp hs14.1 n13.out
     have S14 := Lib.hid (S13.out.trans hs14)
     have g3 := y14.cell (k := 2) rfl
     have J3 := Lib.hid (penF_flag (b := a3) hp14 HL2x.out)
     rw [HPB.out] at J3
     clear hp14 hs14 y14 J2 g2
     go_wp2_with fail
     refine J3.out.mono ?_
     rintro e w15 ⟨rfl, h15⟩
     have H15 := Lib.hid (PenF.then S14.out h15)
     clear h15 J3 g3
     go_wp2_with fail
     go_roundg j
     case measure => omega
     case rel => exact ⟨m + 1, by have := HM.out; omega, by go_num, H15.out⟩
end Go.Proofs.YtgcbfggoddkhnaaGreatDoor
namespace Go.Proofs.YtgcbfggoddkhnaaGreatDoor.Pa
open Go.RowKit
def Gives {α : Type} (F : Fence) (n : Nat) (P : Program) (gf : Nat) (lb : Array Value) (encs : α → Array Value) (Kp G : World → World → Prop) (S Sp : List α → Prop) (Ok : List α → α → Prop) (w : World) : Prop :=
 ∀ (l : Nat) (J Jx : List α → World → Prop) (W : World), Kp w W → (∀ p A B, J p A → G A B → J p B) → (∀ p A B, Jx p A → G A B → Jx p B) →
  (∀ pre x W1, J pre W1 → Ok pre x → YieldAt F (n - 1) P l (encs x) W1 fun e W' =>
   (e = .returned (.bool true) ∧ J (pre ++ [x]) W' ∧ Kp W1 W') ∨ (e = .returned (.bool false) ∧ Jx (pre ++ [x]) W')) →
  J [] W →
  CallsIn F n P gf (#[.func (.yield l) #[] #[]] ++ lb) W fun e W' => (∃ v, e = .returned v) ∧ ((∃ xs, S xs ∧ J xs W') ∨ (∃ pre, Sp pre ∧ Jx pre W'))
def Book (D : Nat) (r : Loop) (W : World) : Prop := W.heap[D + 1]? = some (.loop r) ∧ W.heap[D]? = some (.deferred (some []))
theorem Book.put {D : Nat} {r : Loop} {W : World} (h : Book D r W) (r' : Loop) : Book D r' (W.putObj (D + 1) (.loop r')) :=
 ⟨World.putObj_heap_same (Array.getElem?_eq_some_iff.1 h.1).1, (World.putObj_heap_other (by omega)).trans h.2⟩
theorem Book.keeps {D : Nat} {r : Loop} {W W' : World} (h : Book D r W) (hk : KeepsOthers W W') : Book D r W' := ⟨hk.same _ _ h.1 rfl, hk.same _ _ h.2 rfl⟩
def Abides (n : Nat) {β : Type} (I : β → World → Prop) : Prop := (∀ s W o, I s W → I s (W.alloc o)) ∧ ∀ s W l o o', I s W → n ≤ l → W.heap[l]? = some o → o.isCells = false → I s (W.putObj l o')
variable {F : Fence} {n : Nat} {P : Program}
theorem wpIn_rangeFunc_steps {α : Type} {g : Operand} {ps : Array Tmp} {assign body : Code} {Q : Exit → Act → World → Prop} {a : Act} {w : World}
   (hro : F.round = none) (h1 : 1 ≤ n) {gf : Nat} {lb : Array Value} (hg : a.eval g = .func (.func gf) #[] lb) (hFg : F.fn gf) (eg : ∀ args w, (callFunc gf args).run P w = .ok (.enter gf args) w)
   {encs : α → Array Value} {Kp G : World → World → Prop} {S Sp : List α → Prop} {Ok : List α → α → Prop} (hseq : Gives F (n - 1) P gf lb encs Kp G S Sp Ok w)
   (hKt : ∀ {A B C : World}, Kp A B → Kp B C → Kp A C) (hKa : ∀ (W : World) (o : Obj), Kp W (W.alloc o)) (hKb : ∀ (W : World) (l : Nat) (o' : Obj), w.heap.size ≤ l → Kp W (W.putObj l o'))
   (hG : ∀ (A B : World) (k : Nat) (o : Obj), G A B → w.heap.size ≤ k → A.heap[k]? = some o → o.isCells = false → B.heap[k]? = some o) (hps : ∀ x, (encs x).size = ps.size)
   (I : List α → World → Prop) (Ix : Code → List α → World → Prop) (hI : Abides w.heap.size I) (hIx : ∀ c, Abides w.heap.size (Ix c))
   (hIG : ∀ p A B, I p A → G A B → I p B) (hIxG : ∀ c p A B, Ix c p A → G A B → Ix c p B) (h0 : I [] w) (a₁ : α → Act)
   (hassign : ∀ (l : Nat) (x : α) (W : World) (K : Act → World → Prop), K (a₁ x) W →
     assign.wpIn (F.inRound l) (n - 1 - 1) P (Exit.then K (fun _ _ _ => False)) { tmps := (ps.zip (encs x)).foldl (fun t (p, v) => t.setIfInBounds p v) a.tmps, defers := [] } W)
   (hbody : ∀ (l : Nat) (pre : List α) (x : α) (W : World), I pre W → Ok pre x → body.wpIn (F.inRound l) (n - 1 - 1) P (ownPostK Kp I Ix (pre ++ [x]) W) (a₁ x) W)
   (hdone : ∀ (D : Nat) (xs : List α) (W : World), w.heap.size ≤ D → S xs → I xs W → W.heap[D]? = some (.deferred (some [])) → Q .normal { a with defers := { target := .collected D, args := #[] } :: a.defers } W)
   (hstop : ∀ (D : Nat) (c : Code) (pre : List α) (W : World), w.heap.size ≤ D → Sp pre → Ix c pre W → W.heap[D]? = some (.deferred (some [])) → c.wpIn F n P Q { a with defers := { target := .collected D, args := #[] } :: a.defers } W) :
   (Code.rangeFunc g ps assign body).wpIn F n P Q a w := by
 refine wpIn_rangeFunc fun fn hfn => ?_
 rw [hro]
 obtain ⟨D, hD⟩ : ∃ D, D = w.heap.size := ⟨_, rfl⟩
 obtain ⟨lp, hlp⟩ : ∃ lp : LoopState → Option Code → Loop, lp = fun st pe => { state := st, pending := pe, fn, tmps := a.tmps, params := ps, assign, body, defers := D } := ⟨_, rfl⟩
 obtain ⟨W1, hW1⟩ : ∃ W1, W1 = (w.alloc (.deferred (some []))).alloc (.loop (lp .ready none)) := ⟨_, rfl⟩
 have b1 : Book D (lp .ready none) W1 := by
   subst hW1 hD
   refine ⟨?_, (Below.heap_alloc _ _ _ (by simp)).trans (World.alloc_heap_new w _)⟩
   have := World.alloc_heap_new (w.alloc (.deferred (some []))) (.loop (lp .ready none))
   rwa [World.size_alloc] at this
 have i1 : I [] W1 := by subst hW1; exact hI.1 _ _ _ (hI.1 _ _ _ h0)
 have k1 : Kp w W1 := by subst hW1; exact hKt (hKa _ _) (hKa _ _)
 refine ⟨D + 1, [{ target := .collected D, args := #[] }], W1, { target := .fn (.func gf) lb, args := #[.func (.yield (D + 1)) #[] #[]] }, W1, gf, #[.func (.yield (D + 1)) #[] #[]] ++ lb, W1, ?_, ?_, ?_, ?_, fun _ => h1, ?_⟩
 · rw [hW1, hlp, hD]; exact run_enterLoop_outer _ _ _ _ _
 · simp only [resolve, hg]
   simp [go_sem]
 · intro f' hf'; simp [Target.leads] at hf'; subst hf'; exact hFg
 · simp [invoke, go_sem, eg]
 have kept : ∀ {A B : World} {r : Loop}, G A B → Book D r A → Book D r B := fun hGAB hb => ⟨hG _ _ _ _ hGAB (by omega) hb.1 rfl, hG _ _ _ _ hGAB (by omega) hb.2 rfl⟩
 refine (hseq (D + 1) (fun pre W => I pre W ∧ Book D (lp .ready none) W) (fun pre W => ∃ c, Ix c pre W ∧ Book D (lp .done (some c)) W) W1 k1
   (fun p A B hJ hGAB => ⟨hIG p A B hJ.1 hGAB, kept hGAB hJ.2⟩)
   (fun p A B hJ hGAB => by obtain ⟨c, h2, h3⟩ := hJ; exact ⟨c, hIxG c p A B h2 hGAB, kept hGAB h3⟩) ?_ ⟨i1, b1⟩).mono ?_
 · rintro pre x W ⟨hi, hb⟩ hlen
   have hy := run_yield (P := P) (args := encs x) hb.1 (by rw [hlp]; exact hps x)
   rw [hlp] at hy
   refine ⟨fn, _, assign, body, hy, roundIn_of_wpIn hfn (hassign _ x W _ ⟨_, run_beginRound hb.1 (by rw [hlp]), ?_⟩)⟩
   have hb2 : Book D { lp .ready none with state := .busy } (W.putObj (D + 1) (.loop { lp .ready none with state := .busy })) := hb.put _
   have kb : Kp W (W.putObj (D + 1) (.loop { lp .ready none with state := .busy })) := hKb _ _ _ (by omega)
   refine wpIn_mono (hbody _ pre x _ (hI.2 _ _ _ _ _ hi (by omega) hb.1 rfl) hlen) ?_
   have ended : ∀ (j : Option Code) (W3 : World), KeepsOthers (W.putObj (D + 1) (.loop { lp .ready none with state := .busy })) W3 →
      W3.heap[D + 1]? = some (.loop { lp .ready none with state := .busy }) ∧
      (Instr.endRound (D + 1) j).run P W3 = .ok (.bool j.isNone) (W3.putObj (D + 1) (.loop (lp (if j.isNone then .ready else .done) j))) ∧
      Book D (lp (if j.isNone then .ready else .done) j) (W3.putObj (D + 1) (.loop (lp (if j.isNone then .ready else .done) j))) := fun j W3 hk3 => by
     have h3 := hb2.keeps hk3
     have hr := run_endRound (P := P) j h3.1
     refine ⟨h3.1, ?_, h3.put _⟩
     rw [hlp] at hr ⊢
     exact hr
   have out : ∀ (c : Code) (W3 : World), KeepsOthers (W.putObj (D + 1) (.loop { lp .ready none with state := .busy })) W3 → Ix c (pre ++ [x]) W3 →
      ∃ v w4, (Instr.endRound (D + 1) (some c)).run P W3 = .ok v w4 ∧ ((Ending.returned v = .returned (.bool true) ∧ (I (pre ++ [x]) w4 ∧ Book D (lp .ready none) w4) ∧ Kp W w4) ∨ (Ending.returned v = .returned (.bool false) ∧ ∃ c, Ix c (pre ++ [x]) w4 ∧ Book D (lp .done (some c)) w4)) := fun c W3 hk3 hi3 => by
     obtain ⟨hl3, hr, h4⟩ := ended (some c) W3 hk3
     exact ⟨_, _, hr, .inr ⟨rfl, c, (hIx c).2 _ _ _ _ _ hi3 (by omega) hl3 rfl, h4⟩⟩
   rintro e a3 W3 hp
   cases e with
   | normal =>
     obtain ⟨hk3, hkp, hi3⟩ := hp
     obtain ⟨hl3, hr, h4⟩ := ended none W3 hk3
     exact ⟨_, _, hr, .inl ⟨rfl, ⟨hI.2 _ _ _ _ _ hi3 (by omega) hl3 rfl, h4⟩, hKt (hKt kb hkp) (hKb _ _ _ (by omega))⟩⟩
   | ret => exact out .ret W3 hp.1 hp.2
   | exit id => exact out (.exit id) W3 hp.1 hp.2
   | goto t => exact out (.goto t) W3 hp.1 hp.2
   | panic ch => exact hp.elim
   | outgrown => exact hp.elim
 · rintro e W2 ⟨⟨v, rfl⟩, (⟨xs, hS, hi, hb⟩ | ⟨pre, hSp, c, hi, hb⟩)⟩
   · have hr := run_endLoop (P := P) hb.1 (by rw [hlp]; simp)
     rw [hlp] at hr
     exact ⟨none, _, hr, hdone D xs _ (by omega) hS (hI.2 _ _ _ _ _ hi (by omega) hb.1 rfl) ((World.putObj_heap_other (by omega)).trans hb.2)⟩
   · have hr := run_endLoop (P := P) hb.1 (by rw [hlp]; simp)
     rw [hlp] at hr
     exact ⟨some c, _, hr, hstop D c pre _ (by omega) hSp ((hIx c).2 _ _ _ _ _ hi (by omega) hb.1 rfl) ((World.putObj_heap_other (by omega)).trans hb.2)⟩
end Go.Proofs.YtgcbfggoddkhnaaGreatDoor.Pa
namespace Go.Proofs.YtgcbfggoddkhnaaGreatDoor.Pa
open Go.RowKit Go.Shelf
attribute [local go_sem] Oper.semAt_some
theorem indexByte_one : ∀ (a b : List UInt8) (c : UInt8), c ∉ a → Lib.indexByte (a ++ c :: b) c = a.length
 | [], b, c, _ => by simp [Lib.indexByte]
 | x :: a, b, c, h => by
  have hx : ¬ x = c := fun e => h (by simp [e])
  have ih := indexByte_one a b c (fun e => h (by simp [e]))
  simp only [List.cons_append, Lib.indexByte]
  rw [if_neg (by simpa using hx), ih, if_neg (by simp)]
  simp
theorem indexByte_no : ∀ (a : List UInt8) (c : UInt8), c ∉ a → Lib.indexByte a c = -1
 | [], c, _ => by simp [Lib.indexByte]
 | x :: a, c, h => by
  have hx : ¬ x = c := fun e => h (by simp [e])
  have ih := indexByte_no a c (fun e => h (by simp [e]))
  simp only [Lib.indexByte]
  rw [if_neg (by simpa using hx), ih]
  simp
theorem slice_to {r : ByteArray} {a b : List UInt8} (h : r = str (a ++ b)) (W : World) : (Instr.slice 9 (.string r) none (some (.int .i64 (a.length : Int))) none).run Tryz.prog W = .ok (.string (str a)) W := by
 subst h
 rw [run_slice_string_h W 9 _ Tryz.underlying9 .i64 _ (by omega) (by rw [str_size, List.length_append]; omega)]
 congr 2
 apply ByteArray.ext
 simp [str, ByteArray.data_extract]
theorem slice_from {r : ByteArray} {a b : List UInt8} (h : r = str (a ++ 46 :: b)) (W : World) : (Instr.slice 9 (.string r) (some (.int .i64 ((a.length : Int) + 1))) none none).run Tryz.prog W = .ok (.string (str b)) W := by
 subst h
 rw [run_slice_string_l W 9 _ Tryz.underlying9 .i64 _ (by omega) (by rw [str_size]; simp; omega)]
 have e : ((a.length : Int) + 1).toNat = a.length + 1 := by omega
 rw [e]
 congr 2
 apply ByteArray.ext
 simp [str, ByteArray.data_extract, ByteArray.size]
 exact List.take_of_length_le (by omega)
def leftIn (W : World) (N : Nat) : Nat :=
 match W.cell? ⟨N, 0, none⟩ with
 | some (.string s) => s.size
 | _ => 0
theorem leftIn_eq {W : World} {N : Nat} {r : List UInt8} (h : Boxed W N 9 (.string (str r))) : leftIn W N = r.length := by
 unfold leftIn
 rw [h.cell]
 exact str_size r
def Vars (W : World) (N : Nat) (r : List UInt8) : Prop := Boxed W N 9 (.string (str r)) ∧ Boxed W (N + 1) 9 (.string ⟨#[46]⟩) ∧ Boxed W (N + 2) 3 (.int .i64 0)
def Trio (N : Nat) (W W' : World) : Prop := ∀ k, N ≤ k → k ≤ N + 2 → k < W.heap.size → W'.heap[k]? = W.heap[k]?
theorem Trio.trans {N : Nat} {A B C : World} (h : Trio N A B) (h' : Trio N B C) : Trio N A C := fun k h1 h2 h3 => by
 have e := h k h1 h2 h3
 refine (h' k h1 h2 ?_).trans e
 have : B.heap[k]? = some (A.heap[k]'h3) := by rw [e, Array.getElem?_eq_getElem h3]
 exact (Array.getElem?_eq_some_iff.1 this).1
theorem Vars.kept {W W' : World} {N : Nat} {r : List UInt8} (h : Vars W N r) (hk : Trio N W W') : Vars W' N r :=
 ⟨(hk N (by omega) (by omega) h.1.lt).trans h.1, (hk (N + 1) (by omega) (by omega) h.2.1.lt).trans h.2.1, (hk (N + 2) (by omega) (by omega) h.2.2.lt).trans h.2.2⟩
theorem Vars.set {W : World} {N : Nat} {r : List UInt8} (h : Vars W N r) (q : List UInt8) : Vars (W.setCell ⟨N, 0, none⟩ (.string (str q))) N q :=
 ⟨h.1.set _, h.2.1.other (by omega) _, h.2.2.other (by omega) _⟩
def Steps (N : Nat) (A B : World) : Prop := A.grownBy B (some N) ∧ A.drawn ≤ B.drawn
set_option maxRecDepth 100000 in
set_option maxHeartbeats 2000000 in
theorem split_in (n : Nat) (hn : 1 ≤ n) (l N : Nat) (s0 : List UInt8) (hs : s0.length ≤ 140737488351232) (J Jx : List (List UInt8) → World → Prop) (hJ : ∀ p A B, J p A → Steps N A B → J p B)
  (hY : ∀ pre x W1, J pre W1 → x.length ≤ 140737488351232 → YieldAt Fence.wide (n - 1) Tryz.prog l #[.string (str x)] W1 fun e W' =>
    (e = .returned (.bool true) ∧ J (pre ++ [x]) W' ∧ Trio N W1 W') ∨ (e = .returned (.bool false) ∧ Jx (pre ++ [x]) W'))
  (W : World) (hV : Vars W N s0) (h0 : J [] W) :
  CallsIn Fence.wide n Tryz.prog 183 #[.func (.yield l) #[] #[], .pointer (some ⟨N + 1, 0, none⟩), .pointer (some ⟨N, 0, none⟩), .pointer (some ⟨N + 2, 0, none⟩)] W fun e W' => (∃ v, e = .returned v) ∧
    ((∃ ys, ys = split s0 ∧ J ys W') ∨ (∃ pre, pre <+: split s0 ∧ Jx pre W')) := by
 refine callsIn_of_wp Tryz.func183 rfl trivial ?_ rfl
 simp only [Tryz.ntmps183, List.size_toArray, List.length_cons, List.length_nil, Nat.reduceAdd, Nat.reduceSub, Array.replicate_succ, Array.replicate_zero, List.push_toArray, List.append_toArray, List.nil_append, List.cons_append]
 have c2 := hV.2.1.cell
 have HV := Lib.hid hV
 have HJ0 := Lib.hid h0
 have HJ := Lib.hid hJ
 have HY := Lib.hid hY
 clear hV h0 hJ hY
 gi_wp2
 gi_loopw [7] (fun _ wr => ∃ pre r, split s0 = pre ++ split r ∧ r.length ≤ s0.length ∧ Vars wr N r ∧ J pre wr) (fun _ wr => leftIn wr N)
 case atStart => exact ⟨[], s0, rfl, Nat.le_refl _, HV.out, HJ0.out⟩
 case round =>
  obtain ⟨pre, r, hx, hr, hv, hj⟩ := hrel
  have c0 := hv.1.cell
  have f0 := hv.1.frozen
  have c1 := hv.2.1.cell
  have c3 := hv.2.2.cell
  have HX := Lib.hid hx
  have HVr := Lib.hid hv
  by_cases hd : 46 ∈ r
  · obtain ⟨a, b, hab, hna⟩ := part_at r 46 hd
    have hi := indexByte_one a b 46 hna
    have H67 := Lib.hid (Tryz.strings_Index_one (str r) 46 wr)
    rw [str_list, hab, hi] at H67
    obtain ⟨q, hq⟩ : ∃ q, q = str (a ++ 46 :: b) := ⟨_, rfl⟩
    have s1 := slice_to (a := a) (b := 46 :: b) hq
    have s2 := slice_from (a := a) (b := b) hq
    have hal : a.length ≤ 140737488351232 := by rw [hab, List.length_append] at hr; omega
    have HB : Hid (b.length < r.length ∧ b.length ≤ s0.length) := by rw [hab] at hr ⊢; simp at hr ⊢; unfold Hid; omega
    have HS : Hid (split s0 = (pre ++ [a]) ++ split b) := by rw [Hid, hx, hab, split_some a b hna]; simp
    have HL := Lib.hid (leftIn_eq hv.1)
    obtain ⟨fn, tmps, assign, body, hy, hR⟩ := HY.out pre a wr hj hal
    have HR := Lib.hid hR
    have HQ : Hid (str r = q) := by rw [Hid, hab, hq]
    rw [hab, ← hq] at c0
    rw [← hq] at H67
    clear hab hx hr hv hd hi hna hR hq
    gi_wp2_with (refine ⟨trivial, ?_⟩; gi_at_call 185; refine (callsIn_wide.2 H67.out).mono ?_; rintro e w' ⟨rfl, rfl⟩)
    refine HR.out.mono ?_
    rintro e W3 (⟨rfl, hJ3, hk3⟩ | ⟨rfl, hJx3⟩)
    · have V3 := Lib.hid (HVr.out.kept hk3)
      have d0 := V3.out.1.cell
      rw [HQ.out] at d0
      have e0 := V3.out.1.frozen
      have d1 := V3.out.2.1.cell
      clear c0 f0 c1 c3 hy hk3
      gi_wp2
      go_roundw
      case rel => exact ⟨pre ++ [a], b, HS.out, HB.out.2, V3.out.set b, HJ.out _ _ _ hJ3 ⟨grownBy_setCell' _ _ _, Nat.le_refl _⟩⟩
      case measure => rw [leftIn_eq (V3.out.set b).1, HL.out]; exact HB.out.1
    · gi_wp2
      refine bodyPost_ret (results_none rfl _ _ _) rfl ?_
      exact ⟨⟨_, rfl⟩, .inr ⟨pre ++ [a], ⟨split b, HS.out.symm⟩, hJx3⟩⟩
  · have hi := indexByte_no r 46 hd
    have H67 := Lib.hid (Tryz.strings_Index_one (str r) 46 wr)
    rw [str_list, hi] at H67
    have HS : Hid (split s0 = pre ++ [r]) := by rw [Hid, hx, split_none r hd]
    obtain ⟨fn, tmps, assign, body, hy, hR⟩ := HY.out pre r wr hj (by omega)
    have HR := Lib.hid hR
    clear hx hr hv hd hi hR
    gi_wp2_with (refine ⟨trivial, ?_⟩; gi_at_call 185; refine (callsIn_wide.2 H67.out).mono ?_; rintro e w' ⟨rfl, rfl⟩)
    refine HR.out.mono ?_
    rintro e W3 (⟨rfl, hJ3, hk3⟩ | ⟨rfl, hJx3⟩)
    · gi_wp2
      go_end0
      exact ⟨⟨_, rfl⟩, .inl ⟨pre ++ [r], HS.out.symm, hJ3⟩⟩
    · gi_wp2
      go_end0
      exact ⟨⟨_, rfl⟩, .inr ⟨pre ++ [r], by rw [HS.out]; exact List.prefix_refl _, hJx3⟩⟩
theorem split_gives (n : Nat) (hn : 1 ≤ n) (N : Nat) (s0 : List UInt8) (hs : s0.length ≤ 140737488351232) (w : World) (hV : Vars w N s0) :
  Gives Fence.wide n Tryz.prog 183 #[.pointer (some ⟨N + 1, 0, none⟩), .pointer (some ⟨N, 0, none⟩), .pointer (some ⟨N + 2, 0, none⟩)] (fun x : List UInt8 => #[Value.string (str x)]) (Trio N) (Steps N)
   (fun ys => ys = split s0) (fun pre => pre <+: split s0) (fun _ x => x.length ≤ 140737488351232) w :=
 fun l J Jx W hk hJ _ hY h0 => split_in n hn l N s0 hs J Jx hJ hY W (hV.kept hk) h0
theorem splitSeq45_any (s : ByteArray) (w : World) : Calls Tryz.prog 158 #[.string s, .string ⟨#[46]⟩, .int .i64 0] w fun e w' =>
  e = .returned (.func (.func 183) #[] #[.pointer (some ⟨w.heap.size + 1, 0, none⟩), .pointer (some ⟨w.heap.size, 0, none⟩), .pointer (some ⟨w.heap.size + 2, 0, none⟩)]) ∧
  w' = ((w.alloc (.cells #[.string s] 9)).alloc (.cells #[.string ⟨#[46]⟩] 9)).alloc (.cells #[.int .i64 0] 3) := by
 go_enter Tryz.func158, Tryz.ntmps158
 go_wp2_with fail
 go_ret
 exact ⟨rfl, rfl⟩
theorem splitSeq_any (s : ByteArray) (w : World) : Calls Tryz.prog 121 #[.string s, .string ⟨#[46]⟩] w fun e w' =>
  e = .returned (.func (.func 183) #[] #[.pointer (some ⟨w.heap.size + 1, 0, none⟩), .pointer (some ⟨w.heap.size, 0, none⟩), .pointer (some ⟨w.heap.size + 2, 0, none⟩)]) ∧
  w' = ((w.alloc (.cells #[.string s] 9)).alloc (.cells #[.string ⟨#[46]⟩] 9)).alloc (.cells #[.int .i64 0] 3) := by
 go_enter Tryz.func121, Tryz.ntmps121
 go_wp2_with fail
 refine (splitSeq45_any s w).mono ?_
 rintro e w' ⟨rfl, rfl⟩
 go_wp2_with fail
 go_ret
 exact ⟨rfl, rfl⟩
end Go.Proofs.YtgcbfggoddkhnaaGreatDoor.Pa
namespace Go.Proofs.YtgcbfggoddkhnaaGreatDoor.Pa
open Go.RowKit Go.Shelf
theorem ZRow.more {w : World} {B B' : Nat} {v : Value} {l : List Int} (h : ZRow w B' v l) (hB : B ≤ B') : ZRow w B v l := by
 have h0 : w.ownsRow B' 3 1 v l.length (zCellsOf l) := h
 obtain ⟨h1, h2⟩ := h0
 refine ⟨h1, ?_⟩
 rcases h2 with h2 | ⟨g, cap, cur, e, hbb, r⟩
 · exact .inl h2
 · exact .inr ⟨g, cap, cur, e, Nat.le_trans hB hbb, r⟩
attribute [local go_sem] Oper.semAt_some
theorem wpListIn_append_z {F : Fence} {n : Nat} {w : World} {ops : Array Oper} {rest : List Oper} {o : Oper} {a : Act} {Q : Exit → Act → World → Prop} (hgd : o.guard = none) (s x : Operand)
  (ho : o.op = .call { callee := .builtin .append, args := #[s, x], argTypes := #[43, 43] }) (base : Nat) (v : Value) (us : List Int) (hs : a.eval s = v)
  (hown : ZRow w base v us) (ad : Addr) (u : Int) (hxe : a.eval x = .slice (some ad) 1 1) (hc : ∀ j y, [Value.int .i64 u][j]? = some y → w.cell? (ad.add j) = some y)
  (hn : us.length + 1 ≤ 100000000) (hbase : base ≤ w.heap.size)
  (h : ∀ v' w', ZRow w' base v' (us ++ [u]) → w.grownBy w' v.ownBlock → wpListIn F n Tryz.prog ops Q rest (a.put o.dst v') w') : wpListIn F n Tryz.prog ops Q (o :: rest) a w := by
 obtain ⟨i0, hi, hz0, hz1, hz2⟩ := info_parts Tryz.info3
 refine wpListIn_append_own w hgd s x 43 ho base 3 i0 _ 1 8 Tryz.underlying43 hi hz0 hz1 hz2 rfl (by decide) v us.length _ hs hown ad 1 1 [.int .i64 u] hxe rfl hc (by simp [Value.oneCell']) (by unfold maxLen; omega) (by omega) hbase ?_
 intro v' w' h1 h2 _
 exact h v' w' (by unfold ZRow zCellsOf; rw [List.map_append, List.length_append]; exact h1) h2
def PathI (w : World) (us : List Int) (W : World) : Prop :=
 (∃ v, Boxed W (w.heap.size + 2) 43 v ∧ ZRow W (w.heap.size + 6) v us) ∧ Boxed W w.heap.size 43 (.slice none 0 0) ∧ Boxed W (w.heap.size + 1) 4 (.bool false) ∧ Below w.heap.size w W ∧ w.heap.size + 6 ≤ W.heap.size
def PathX (w W : World) : Prop := Boxed W w.heap.size 43 (.slice none 0 0) ∧ Boxed W (w.heap.size + 1) 4 (.bool false) ∧ Below w.heap.size w W ∧ w.heap.size + 6 ≤ W.heap.size
def Mild (M : Nat) (A : World) (row : Option Nat) : Prop := ∀ r, row = some r → (M + 3 ≤ r ∧ r < M + 6) ∨ (M + 6 ≤ r ∧ ∃ o : Obj, A.heap[r]? = some o ∧ o.isCells = false)
theorem boxed_mild {A B : World} {M k : Nat} {row : Option Nat} {t : TypeId} {v : Value} (h : Boxed A k t v) (hk : k < M + 3) (hg : A.grownBy B row) (hr : Mild M A row) : Boxed B k t v :=
 h.kept hg fun e => by rcases hr k e.symm with h | h <;> omega
theorem PathX.mild {w A B : World} {row : Option Nat} (h : PathX w A) (hg : A.grownBy B row) (hr : Mild w.heap.size A row) : PathX w B :=
 ⟨boxed_mild h.1 (by omega) hg hr, boxed_mild h.2.1 (by omega) hg hr, h.2.2.1.grown hg h.2.2.1.size (fun k e => by rcases hr k e with h | h <;> omega), Nat.le_trans h.2.2.2 hg.size⟩
theorem PathI.mild {w A B : World} {us : List Int} {row : Option Nat} (h : PathI w us A) (hg : A.grownBy B row) (hr : Mild w.heap.size A row)  : PathI w us B := by
 obtain ⟨⟨v, hv, hrow⟩, h2⟩ := h
 refine ⟨⟨v, boxed_mild hv (by omega) hg hr, ?_⟩, (PathX.mild h2 hg hr)⟩
 refine World.ownsRow.kept hrow hg ?_
 have hrow0 : A.ownsRow (w.heap.size + 6) 3 1 v us.length (zCellsOf us) := hrow
 rcases hrow0.2 with ⟨rfl, _⟩ | ⟨g, cap, cur, rfl, hb, hgb, _⟩
 · exact .inl rfl
 · refine .inr fun e => ?_
   rcases hr g (by simpa [Value.ownBlock] using e.symm) with h | ⟨_, o, ho, hc⟩
   · omega
   · rw [hgb] at ho; cases ho; cases hc
def RetParse (w : World) (t : List UInt8) (e : Ending) (w' : World) : Prop :=
 Below w.heap.size w w' ∧ ((∃ zs v, IsPath t zs ∧ e = .returned (.tuple #[v, .bool true]) ∧ ZRow w' w.heap.size v zs) ∨
  ((∀ zs, ¬ IsPath t zs) ∧ e = .returned (.tuple #[.slice none 0 0, .bool false])))
def PI (w : World) (pre : List (List UInt8)) (W : World) : Prop := ∃ zs, Each atoiOf pre zs ∧ zs.length ≤ 6 ∧ WideZ zs ∧ PathI w zs W
def PX (w : World) (c : Code) (pre : List (List UInt8)) (W : World) : Prop := c = .ret ∧ (∃ pr x, pre = pr ++ [x] ∧ (atoiOf x = none ∨ pr.length = 6)) ∧ PathX w W
theorem PI.own {w : World} {n : Nat} (hn : n = w.heap.size + 6) : Abides n (PI w) := by
 subst hn
 refine ⟨fun s W o ⟨us, h1, h2, h4, h3⟩ => ⟨us, h1, h2, h4, h3.mild (World.grownBy_alloc W o none) (fun r e => by cases e)⟩, fun s W l o o' ⟨us, h1, h2, h4, h3⟩ hl ho hc => ⟨us, h1, h2, h4, h3.mild (grownBy_putObj' W l o') (fun r e => by cases e; exact .inr ⟨hl, o, ho, hc⟩)⟩⟩
theorem PX.own {w : World} {n : Nat} (hn : n = w.heap.size + 6) (c : Code) : Abides n (PX w c) := by
 subst hn
 refine ⟨fun s W o ⟨h1, h2, h3⟩ => ⟨h1, h2, h3.mild (World.grownBy_alloc W o none) (fun r e => by cases e)⟩, fun s W l o o' ⟨h1, h2, h3⟩ hl ho hc => ⟨h1, h2, h3.mild (grownBy_putObj' W l o') (fun r e => by cases e; exact .inr ⟨hl, o, ho, hc⟩)⟩⟩
theorem PI.steps {w : World} (pre : List (List UInt8)) (A B : World) (h : PI w pre A) (hG : Steps (w.heap.size + 3) A B) : PI w pre B := by
 obtain ⟨us, h1, h2, h4, h3⟩ := h
 exact ⟨us, h1, h2, h4, h3.mild hG.1 (fun r e => .inl (by cases e; omega))⟩
theorem PX.steps {w : World} (c : Code) (pre : List (List UInt8)) (A B : World) (h : PX w c pre A) (hG : Steps (w.heap.size + 3) A B) : PX w c pre B :=
 ⟨h.1, h.2.1, h.2.2.mild hG.1 (fun r e => .inl (by cases e; omega))⟩
theorem PathX.stored {w W : World} (h : PathX w W) : PathX w ((W.setCell ⟨w.heap.size, 0, none⟩ (.slice none 0 0)).setCell ⟨w.heap.size + 1, 0, none⟩ (.bool false)) := by
 have h1 := h.2.1.other (B' := w.heap.size) (by omega) (.slice none 0 0)
 refine ⟨(h.1.set _).other (by omega) _, h1.set _, (h.2.2.1.setCell (p := ⟨w.heap.size, 0, none⟩) (Nat.le_refl _) _).setCell (p := ⟨w.heap.size + 1, 0, none⟩) (by simp) _, ?_⟩
 exact Nat.le_trans h.2.2.2 (Nat.le_trans (grownBy_setCell' W w.heap.size _).size (grownBy_setCell' _ (w.heap.size + 1) _).size)
theorem trio_below {W W' : World} {N : Nat} (h : Below W.heap.size W W') : Trio N W W' := fun k _ _ hk => h.block k hk
theorem path_appended {w W w1 : World} {us : List Int} {u : Int} {v v' : Value} {tmp : Obj} (hv : Boxed W (w.heap.size + 2) 43 v) (hrow : ZRow W (w.heap.size + 6) v us) (hX : PathX w W)
   (hown : ZRow w1 (w.heap.size + 6) v' (us ++ [u])) (hgrow : (W.alloc tmp).grownBy w1 v.ownBlock) :
   Boxed w1 (w.heap.size + 2) 43 v ∧ PathI w (us ++ [u]) (w1.setCell ⟨w.heap.size + 2, 0, none⟩ v') ∧ KeepsOthers W (w1.setCell ⟨w.heap.size + 2, 0, none⟩ v') ∧ Trio (w.heap.size + 3) W (w1.setCell ⟨w.heap.size + 2, 0, none⟩ v') := by
 have hne : ∀ k, k < w.heap.size + 6 → some k ≠ v.ownBlock := fun k hk e => by
   have := (World.ownsRow.lt hrow k e.symm).1
   omega
 have hne' : ∀ k, k < w.heap.size + 6 → some k ≠ v'.ownBlock := fun k hk e => by
   have := (World.ownsRow.lt hown k e.symm).1
   omega
 have v1 := (hv.alloc tmp).kept hgrow (hne _ (by omega))
 have x0 := (hX.1.alloc tmp).kept hgrow (hne _ (by omega))
 have x1 := (hX.2.1.alloc tmp).kept hgrow (hne _ (by omega))
 refine ⟨v1, ⟨⟨v', v1.set v', World.ownsRow.kept hown (grownBy_setCell' w1 _ v') (.inr fun e => hne' _ (by omega) e.symm)⟩, x0.other (by omega) _, x1.other (by omega) _, ?_, ?_⟩, ?_, ?_⟩
 · refine ((hX.2.2.1.alloc hX.2.2.1.size tmp).grown hgrow (by have := hX.2.2.1.size; simp; omega) fun j e => ?_).setCell (p := ⟨w.heap.size + 2, 0, none⟩) (by simp) v'
   have := (World.ownsRow.lt hrow j e).1
   omega
 · have h1 := hgrow.size
   have h2 := (grownBy_setCell' w1 (w.heap.size + 2) v').size
   rw [World.size_alloc] at h1
   have := hX.2.2.2
   omega
 · refine ((KeepsOthers.alloc W tmp).trans (KeepsOthers.of_grownBy hgrow fun j o ej hj => ?_)).trans (KeepsOthers.setCell _ _ _)
   have hr : (W.alloc tmp).ownsRow (w.heap.size + 6) 3 1 v us.length (zCellsOf us) := World.ownsRow.alloc hrow tmp
   rcases hr.2 with ⟨rfl, _⟩ | ⟨g, cap, cur, rfl, _, hgb, _⟩
   · simp [Value.ownBlock] at ej
   · obtain rfl : g = j := by simpa [Value.ownBlock] using ej
     rw [hgb] at hj; cases hj; rfl
 · intro k h1 h2 h3
   refine ((grownBy_setCell' w1 (w.heap.size + 2) v').block k ?_ (by intro e; injection e with e; omega)).trans ((hgrow.block k (by simp; omega) (hne k (by omega))).trans ((World.grownBy_alloc W tmp none).block k h3 (by simp)))
   exact Nat.lt_of_lt_of_le (by simp; omega) hgrow.size
set_option maxRecDepth 100000 in
set_option maxHeartbeats 4000000 in
theorem parse_any {w : World} {t : List UInt8} (h : Env w) (hn : t.length ≤ 140737488351232) : Calls Tryz.prog 86 #[.string (str t)] w (RetParse w t) := by
 by_cases ht : t = []
 · subst ht
   have hq : (str []).toList.isEmpty = true := by rw [ByteArray.toList_eq, str_list]; rfl
   obtain ⟨s, hs⟩ : ∃ s, s = str [] := ⟨_, rfl⟩
   rw [← hs] at hq ⊢
   clear hs
   go_enter Tryz.func86, Tryz.ntmps86
   go_wp2_with fail
   refine bodyPost_ret (v := .tuple #[.slice none 0 0, .bool true]) ?_ rfl ⟨((Below.refl _ w).alloc (Nat.le_refl _) _).alloc (by simp) _, .inl ⟨[], _, isPath_nil, rfl, World.ownsRow_nil _ _ _ _⟩⟩
   simp [results, Tryz.f86, go_sem]
 · have hq : (str t).toList.isEmpty = false := by rw [ByteArray.toList_eq, str_list]; simpa using ht
   have HE := Lib.hid h
   have HT := Lib.hid ht
   obtain ⟨W0, hW0⟩ : ∃ W0, W0 = ((((((w.alloc (.cells #[.slice none 0 0] 43)).alloc (.cells #[.bool false] 4)).alloc (.cells #[.slice none 0 0] 43)).alloc (.cells #[.string (str t)] 9)).alloc (.cells #[.string ⟨#[46]⟩] 9)).alloc (.cells #[.int .i64 0] 3)) := ⟨_, rfl⟩
   have hsz : W0.heap.size = w.heap.size + 6 := by rw [hW0]; simp
   have b0 : Boxed W0 w.heap.size 43 (.slice none 0 0) := by rw [hW0]; exact ((((((Boxed.new w 43 _).alloc _).alloc _).alloc _).alloc _).alloc _)
   have b1 : Boxed W0 (w.heap.size + 1) 4 (.bool false) := by
    rw [hW0]
    have := Boxed.new (w.alloc (.cells #[.slice none 0 0] 43)) 4 (.bool false)
    rw [World.size_alloc] at this
    exact ((((this.alloc _).alloc _).alloc _).alloc _)
   have b2 : Boxed W0 (w.heap.size + 2) 43 (.slice none 0 0) := by
    rw [hW0]
    have := Boxed.new ((w.alloc (.cells #[.slice none 0 0] 43)).alloc (.cells #[.bool false] 4)) 43 (.slice none 0 0)
    rw [World.size_alloc, World.size_alloc] at this
    exact (((this.alloc _).alloc _).alloc _)
   have b3 : Vars W0 (w.heap.size + 3) t := by
    rw [hW0]
    have h3 := Boxed.new (((w.alloc (.cells #[.slice none 0 0] 43)).alloc (.cells #[.bool false] 4)).alloc (.cells #[.slice none 0 0] 43)) 9 (.string (str t))
    have h4 := Boxed.new ((((w.alloc (.cells #[.slice none 0 0] 43)).alloc (.cells #[.bool false] 4)).alloc (.cells #[.slice none 0 0] 43)).alloc (.cells #[.string (str t)] 9)) 9 (.string ⟨#[46]⟩)
    have h5 := Boxed.new (((((w.alloc (.cells #[.slice none 0 0] 43)).alloc (.cells #[.bool false] 4)).alloc (.cells #[.slice none 0 0] 43)).alloc (.cells #[.string (str t)] 9)).alloc (.cells #[.string ⟨#[46]⟩] 9)) 3 (.int .i64 0)
    simp only [World.size_alloc] at h3 h4 h5
    exact ⟨(h3.alloc _).alloc _, h4.alloc _, h5⟩
   have bl : Below w.heap.size w W0 := by
    rw [hW0]
    exact ((((((Below.refl _ w).alloc (Nat.le_refl _) _).alloc (by simp) _).alloc (by simp; omega) _).alloc (by simp; omega) _).alloc (by simp; omega) _).alloc (by simp; omega) _
   have HI : Hid (PathI w [] W0) := ⟨⟨_, b2, World.ownsRow_nil _ _ _ _⟩, b0, b1, bl, Nat.le_of_eq hsz.symm⟩
   have HV := Lib.hid b3
   have HZ := Lib.hid hsz
   have HW := Lib.hid hW0
   obtain ⟨s, hs⟩ : ∃ s, s = str t := ⟨_, rfl⟩
   rw [← hs] at hq HW ⊢
   have HS0 := Lib.hid hs
   clear hs b0 b1 b2 b3 bl hsz hW0 h ht
   refine (callsIn_wide (n := 5)).1 ?_
   refine callsIn_of_wp_marks Tryz.func86 rfl trivial ?_ rfl
   simp only [Tryz.ntmps86, List.size_toArray, List.length_cons, List.length_nil, Nat.reduceAdd, Nat.reduceSub, Array.replicate_succ, Array.replicate_zero, List.push_toArray, List.append_toArray, List.nil_append, List.cons_append]
   gi_wp2_with (refine ⟨trivial, ?_⟩; gi_at_call 121; refine (callsIn_wide.2 (splitSeq_any s _)).mono ?_; rintro e w' ⟨rfl, rfl⟩)
   rw [← HW.out]
   refine wpIn_rangeFunc_steps rfl (by omega) (gf := 183) (lb := #[.pointer (some ⟨w.heap.size + 3 + 1, 0, none⟩), .pointer (some ⟨w.heap.size + 3, 0, none⟩), .pointer (some ⟨w.heap.size + 3 + 2, 0, none⟩)]) rfl trivial (enters_of Tryz.func183 (by kernel_rfl) rfl)
    (split_gives 4 (by omega) (w.heap.size + 3) t hn W0 HV.out) (fun h h' => h.trans h')
    (fun W o k _ _ h => (World.grownBy_alloc W o none).block k h (by simp)) (fun W l o' hl k _ h2 _ => World.putObj_heap_other (by have := HZ.out; omega))
    (fun A B k o hG hk ho hc => (hG.1.block k (Array.getElem?_eq_some_iff.1 ho).1 (fun e => by cases e; have := HZ.out; omega)).trans ho) (fun _ => rfl)
    (PI w) (PX w) (PI.own HZ.out) (PX.own HZ.out) PI.steps PX.steps
    ⟨[], rfl, by simp, fun _ h => by simp at h, HI.out⟩
    (fun x => { tmps := #[.string s, undef, .pointer (some ⟨w.heap.size, 0, none⟩), .pointer (some ⟨w.heap.size + 1, 0, none⟩), .pointer (some ⟨w.heap.size + 1 + 1, 0, none⟩), .string (str x), undef, undef, .string s, .bool false, .string s, .func (.func 183) #[] #[.pointer (some ⟨w.heap.size + 3 + 1, 0, none⟩), .pointer (some ⟨w.heap.size + 3, 0, none⟩), .pointer (some ⟨w.heap.size + 3 + 2, 0, none⟩)], .string (str x), undef, undef, undef, undef, undef, undef, undef, undef, undef, undef, undef, undef, undef, undef, undef, undef, undef, undef, undef, undef, undef, undef, undef, undef, undef, undef], defers := [] }) ?assign ?body ?done ?stop
   case assign =>
    intro l x W K hK
    gi_wp2
    exact hK
   case body =>
    rintro l pre x W ⟨us, heach, h6u, hwide, ⟨v, hv, hrow⟩, hX⟩ hx
    have H20 : Hid (Calls Tryz.prog 122 #[.string (str x)] W (RetAtoi W x)) := atoi_any (HE.out.below hX.2.2.1 HE.out.1) hx
    have HEA := Lib.hid heach
    have HWI := Lib.hid hwide
    have HV1 := Lib.hid hv
    have HR1 := Lib.hid hrow
    have HX1 : Hid (PathX w W) := hX
    clear heach hwide hv hrow hX HI HV HW HZ HE
    gi_wp2_with fail
    refine ⟨trivial, ?_⟩
    refine (CallsIn.inRound l (callsIn_wide.2 H20.out)).mono ?_
    rintro e W2 ⟨hb, (⟨u, hu, hu0, hu1, rfl, hd2⟩ | ⟨hno, n1, n2, rfl⟩)⟩
    · have hX2 := HX1.out.mild (grown_of_below hb) (fun r e => by cases e)
      have hv2 := HV1.out.kept (grown_of_below hb) (by simp)
      have hrow2 := HR1.out.below hb
      have KB := Lib.hid (keeps_below hb)
      have TB := Lib.hid (trio_below (N := w.heap.size + 3) hb)
      have HU := Lib.hid (atoiOf_ok hu)
      clear hb hu HV1 HR1 HX1 H20 hd2
      by_cases h6 : us.length = 6
      · have c2 := hX2.1.cell
        have f2 := hX2.1.frozen
        have c3 := hX2.2.1.cell
        have f3 := hX2.2.1.frozen
        have HX2 := Lib.hid hX2
        have HN : Hid (∃ pr y, pre ++ [x] = pr ++ [y] ∧ (atoiOf y = none ∨ pr.length = 6)) := ⟨pre, x, rfl, .inr (by rw [HEA.out.length]; exact h6)⟩
        obtain ⟨A, c, rfl⟩ := hrow2.slice
        have c4 : W2.cell? ⟨w.heap.size + 1 + 1, 0, none⟩ = some (.slice A us.length c) := hv2.cell
        clear hX2 hv2 hrow2
        gi_wp2
        exact ⟨(KB.out.trans (KeepsOthers.setCell _ _ _)).trans (KeepsOthers.setCell _ _ _), rfl, HN.out, HX2.out.stored⟩
      · have hle : us.length < 6 := by omega
        have HX2 := Lib.hid hX2
        have HV2 := Lib.hid hv2
        have HR2 := Lib.hid hrow2
        obtain ⟨A, c, rfl⟩ := hrow2.slice
        have c4 : W2.cell? ⟨w.heap.size + 1 + 1, 0, none⟩ = some (.slice A us.length c) := hv2.cell
        have h6' : ((us.length : Int) == 6) = false := by simp; omega
        have hsz2 := hX2.2.2.2
        clear hX2 hv2 hrow2 h6
        gi_wp2_with (gi_at_builtin; refine wpListIn_append_z rfl _ _ rfl (w.heap.size + 6) _ us rfl (World.ownsRow.alloc HR2.out _) ⟨W2.heap.size, 0, none⟩ u rfl (cell_one_new _ _ _) (by omega) (by simp; omega) ?_)
        intro v' w1 hown2 hgrow
        obtain ⟨A', c', rfl⟩ := hown2.slice
        obtain ⟨p1, p2, p3, p4⟩ := path_appended HV2.out HR2.out HX2.out hown2 hgrow
        rw [show (us ++ [u]).length = us.length + 1 by simp] at p2 p3 p4 ⊢
        have d4 : w1.cell? ⟨w.heap.size + 1 + 1, 0, none⟩ = some (.slice A us.length c) := p1.cell
        have e4 : w1.frozen? ⟨w.heap.size + 1 + 1, 0, none⟩ = false := p1.frozen
        have P2 := Lib.hid p2
        have P3 := Lib.hid p3
        have P4 := Lib.hid p4
        clear p1 p2 p3 p4 hown2 hgrow c4
        gi_wp2
        refine ⟨KB.out.trans P3.out, TB.out.trans P4.out, us ++ [u], HEA.out.snoc HU.out, by simp; omega, ?_, P2.out⟩
        intro y hy
        rcases List.mem_append.1 hy with h | h
        · exact HWI.out y h
        · simp at h; subst h; exact ⟨hu0, hu1⟩
    · have hX2 := HX1.out.mild (grown_of_below hb) (fun r e => by cases e)
      have KB := Lib.hid (keeps_below hb)
      have HN : Hid (∃ pr y, pre ++ [x] = pr ++ [y] ∧ (atoiOf y = none ∨ pr.length = 6)) := ⟨pre, x, rfl, .inl (atoiOf_no hno)⟩
      have c2 := hX2.1.cell
      have f2 := hX2.1.frozen
      have c3 := hX2.2.1.cell
      have f3 := hX2.2.1.frozen
      have HX2 := Lib.hid hX2
      clear hb hno HV1 HR1 HX1 H20 hX2
      gi_wp2
      exact ⟨(KB.out.trans (KeepsOthers.setCell _ _ _)).trans (KeepsOthers.setCell _ _ _), rfl, HN.out, HX2.out.stored⟩
   case done =>
    rintro D ys W hD rfl ⟨us, heach, h6u, hwide, ⟨v, hv, hrow⟩, h0, h1, hB, hs6⟩ hK
    obtain ⟨A, c, hvs, hz⟩ := hrow.zs
    subst hvs
    have c4 : W.cell? ⟨w.heap.size + 1 + 1, 0, none⟩ = some (.slice A us.length c) := hv.cell
    have H11 := Lib.hid (right_any (c := c) hz)
    have HEW : Env W := HE.out.below hB HE.out.1
    have H13 := Lib.hid (text_any (c := c) HEW hz hwide (by omega))
    have HR := Lib.hid hrow
    have HB := Lib.hid hB
    have HEA := Lib.hid heach
    have HV4 := Lib.hid hv
    have H0 := Lib.hid h0
    have H1 := Lib.hid h1
    have HK := Lib.hid hK
    have HD := Lib.hid hD
    have HS := Lib.hid HS0.out
    clear heach hrow hB hz HEW hwide hv h0 h1 hK hD
    by_cases hok : PathOk us
    · have hd : decide (PathOk us) = true := decide_eq_true hok
      rw [hd] at H11
      clear hd
      gi_wp2_with (first | (refine ⟨trivial, ?_⟩; gi_at_call 106; refine (callsIn_wide.2 H11.out).mono ?_; rintro e w' ⟨rfl, rfl⟩))
      refine ⟨trivial, ?_⟩
      refine (callsIn_wide.2 H13.out).mono ?_
      rintro e W2 ⟨rfl, hb2⟩
      have B0 := H0.out.kept (grown_of_below hb2) (by simp)
      have B1 := H1.out.kept (grown_of_below hb2) (by simp)
      have B4 := HV4.out.kept (grown_of_below hb2) (by simp)
      have HB2 : Hid (Below w.heap.size w W2) := HB.out.trans (hb2.mono HB.out.size)
      have HR2 := Lib.hid (HR.out.below hb2)
      have hK2 := (keeps_below hb2).same D _ HK.out rfl
      have HK2 := Lib.hid hK2
      have c2 := B0.cell
      have f2 := B0.frozen
      have c3 := B1.cell
      have f3 := B1.frozen
      have d4 : W2.cell? ⟨w.heap.size + 1 + 1, 0, none⟩ = some (.slice A us.length c) := B4.cell
      have HB0 := Lib.hid B0
      have HB1 := Lib.hid B1
      clear B0 B1 B4 hb2 hK2 c4 H11 H13
      by_cases htx : zText us = t
      · have hq : ((str (zText us)).toList == s.toList) = true := by rw [HS.out]; exact str_same htx
        have HY : Hid (IsPath t us) := ⟨hok, htx.symm⟩
        clear htx hok
        gi_wp2
        have hK' := ((KeepsOthers.setCell W2 ⟨w.heap.size, 0, none⟩ (.slice A us.length c)).trans (KeepsOthers.setCell _ ⟨w.heap.size + 1, 0, none⟩ (.bool true))).same D _ HK2.out rfl
        refine ⟨by simp, .inl ⟨_, _, rfl, run_takeDeferred hK', ?_⟩⟩
        have x0 : Boxed ((W2.setCell ⟨w.heap.size, 0, none⟩ (.slice A us.length c)).setCell ⟨w.heap.size + 1, 0, none⟩ (.bool true)) w.heap.size 43 (.slice A us.length c) := (HB0.out.set _).other (by omega) _
        have x1 : Boxed ((W2.setCell ⟨w.heap.size, 0, none⟩ (.slice A us.length c)).setCell ⟨w.heap.size + 1, 0, none⟩ (.bool true)) (w.heap.size + 1) 4 (.bool true) := (HB1.out.other (by omega) _).set _
        have y0 := cell_kept x0.cell (grownBy_putObj' _ D (.deferred none)) (fun r e => by cases e; exact ⟨_, hK', rfl⟩)
        have y1 := cell_kept x1.cell (grownBy_putObj' _ D (.deferred none)) (fun r e => by cases e; exact ⟨_, hK', rfl⟩)
        have hne : ∀ k, k < w.heap.size + 6 → (Value.slice A us.length c).ownBlock ≠ some k := fun k hk e => by
          have := (World.ownsRow.lt HR2.out k e).1
          omega
        have r1 := World.ownsRow.kept (World.ownsRow.kept HR2.out (grownBy_setCell' W2 w.heap.size (.slice A us.length c)) (.inr (hne _ (by omega)))) (grownBy_setCell' _ (w.heap.size + 1) (.bool true)) (.inr (hne _ (by omega)))
        have r2 : ZRow _ (w.heap.size + 6) _ us := ownsRow_putObj r1 (.deferred none) hK' rfl
        have bl := ((HB2.out.setCell (p := ⟨w.heap.size, 0, none⟩) (Nat.le_refl _) (.slice A us.length c)).setCell (p := ⟨w.heap.size + 1, 0, none⟩) (by simp) (.bool true)).trans (belowK_b (w := w) (Nat.le_refl _) _ D _ (.deferred none) (by have := HZ.out; have := HD.out; omega) hK' rfl rfl)
        refine ⟨.tuple #[.slice A us.length c, .bool true], ?_, bl, .inl ⟨us, _, HY.out, rfl, ZRow.more r2 (by omega)⟩⟩
        simp [results, Tryz.f86, go_sem, y0, y1]
      · have hq : ((str (zText us)).toList == s.toList) = false := by rw [HS.out]; exact str_differs htx
        have HN : Hid (∀ zs, ¬ IsPath t zs) := parse_no atoiOf_right HT.out HEA.out (fun h => htx h.2)
        clear htx hok
        gi_wp2
        have hK' := ((KeepsOthers.setCell W2 ⟨w.heap.size, 0, none⟩ (.slice none 0 0)).trans (KeepsOthers.setCell _ ⟨w.heap.size + 1, 0, none⟩ (.bool false))).same D _ HK2.out rfl
        refine ⟨by simp, .inl ⟨_, _, rfl, run_takeDeferred hK', ?_⟩⟩
        have x0 : Boxed ((W2.setCell ⟨w.heap.size, 0, none⟩ (.slice none 0 0)).setCell ⟨w.heap.size + 1, 0, none⟩ (.bool false)) w.heap.size 43 (.slice none 0 0) := (HB0.out.set _).other (by omega) _
        have x1 : Boxed ((W2.setCell ⟨w.heap.size, 0, none⟩ (.slice none 0 0)).setCell ⟨w.heap.size + 1, 0, none⟩ (.bool false)) (w.heap.size + 1) 4 (.bool false) := (HB1.out.other (by omega) _).set _
        have y0 := cell_kept x0.cell (grownBy_putObj' _ D (.deferred none)) (fun r e => by cases e; exact ⟨_, hK', rfl⟩)
        have y1 := cell_kept x1.cell (grownBy_putObj' _ D (.deferred none)) (fun r e => by cases e; exact ⟨_, hK', rfl⟩)
        have bl := ((HB2.out.setCell (p := ⟨w.heap.size, 0, none⟩) (Nat.le_refl _) (.slice none 0 0)).setCell (p := ⟨w.heap.size + 1, 0, none⟩) (by simp) (.bool false)).trans (belowK_b (w := w) (Nat.le_refl _) _ D _ (.deferred none) (by have := HZ.out; have := HD.out; omega) hK' rfl rfl)
        refine ⟨.tuple #[.slice none 0 0, .bool false], ?_, bl, .inr ⟨HN.out, rfl⟩⟩
        simp [results, Tryz.f86, go_sem, y0, y1]
    · have hd : decide (PathOk us) = false := decide_eq_false hok
      rw [hd] at H11
      have HN : Hid (∀ zs, ¬ IsPath t zs) := parse_no atoiOf_right HT.out HEA.out (fun h => hok h.1)
      have c2 := H0.out.cell
      have f2 := H0.out.frozen
      have c3 := H1.out.cell
      have f3 := H1.out.frozen
      clear hd hok H13
      gi_wp2_with (first | (refine ⟨trivial, ?_⟩; gi_at_call 106; refine (callsIn_wide.2 H11.out).mono ?_; rintro e w' ⟨rfl, rfl⟩))
      refine ⟨trivial, ?_⟩
      gi_wp2
      have hK' := ((KeepsOthers.setCell W ⟨w.heap.size, 0, none⟩ (.slice none 0 0)).trans (KeepsOthers.setCell _ ⟨w.heap.size + 1, 0, none⟩ (.bool false))).same D _ HK.out rfl
      refine ⟨by simp, .inl ⟨_, _, rfl, run_takeDeferred hK', ?_⟩⟩
      have x0 : Boxed ((W.setCell ⟨w.heap.size, 0, none⟩ (.slice none 0 0)).setCell ⟨w.heap.size + 1, 0, none⟩ (.bool false)) w.heap.size 43 (.slice none 0 0) := (H0.out.set _).other (by omega) _
      have x1 : Boxed ((W.setCell ⟨w.heap.size, 0, none⟩ (.slice none 0 0)).setCell ⟨w.heap.size + 1, 0, none⟩ (.bool false)) (w.heap.size + 1) 4 (.bool false) := (H1.out.other (by omega) _).set _
      have y0 := cell_kept x0.cell (grownBy_putObj' _ D (.deferred none)) (fun r e => by cases e; exact ⟨_, hK', rfl⟩)
      have y1 := cell_kept x1.cell (grownBy_putObj' _ D (.deferred none)) (fun r e => by cases e; exact ⟨_, hK', rfl⟩)
      have bl := ((HB.out.setCell (p := ⟨w.heap.size, 0, none⟩) (Nat.le_refl _) (.slice none 0 0)).setCell (p := ⟨w.heap.size + 1, 0, none⟩) (by simp) (.bool false)).trans (belowK_b (w := w) (Nat.le_refl _) _ D _ (.deferred none) (by have := HZ.out; have := HD.out; omega) hK' rfl rfl)
      refine ⟨.tuple #[.slice none 0 0, .bool false], ?_, bl, .inr ⟨HN.out, rfl⟩⟩
      simp [results, Tryz.f86, go_sem, y0, y1]
   case stop =>
    rintro D c pre W hD hpre ⟨rfl, ⟨pr, x, hpx, hbad⟩, h0, h1, hB, _⟩ hK
    have c2 := h0.cell
    have c3 := h1.cell
    have HN : Hid (∀ zs, ¬ IsPath t zs) := by
      subst hpx
      exact parse_stop atoiOf_right HT.out hpre hbad
    have HB := Lib.hid hB
    clear hbad hpre hB hpx
    gi_wp2
    refine ⟨by simp, .inl ⟨_, _, rfl, run_takeDeferred hK, ?_⟩⟩
    have y0 := cell_kept c2 (grownBy_putObj' _ D (.deferred none)) (fun r e => by cases e; exact ⟨_, hK, rfl⟩)
    have y1 := cell_kept c3 (grownBy_putObj' _ D (.deferred none)) (fun r e => by cases e; exact ⟨_, hK, rfl⟩)
    refine ⟨.tuple #[.slice none 0 0, .bool false], ?_, HB.out.trans (belowK_b (w := w) (Nat.le_refl _) W D _ (.deferred none) (by have := HZ.out; omega) hK rfl rfl), .inr ⟨HN.out, rfl⟩⟩
    simp [results, Tryz.f86, go_sem, y0, y1]
end Go.Proofs.YtgcbfggoddkhnaaGreatDoor.Pa
