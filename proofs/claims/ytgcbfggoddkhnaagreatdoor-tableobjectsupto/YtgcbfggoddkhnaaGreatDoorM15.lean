/- Lemmas for the law: Xl, Xs, Yb, Yc, Zb. -/
import Derived.Test.YtgcbfggoddkhnaaGreatDoorM14
import Derived.Test.YtgcbfggoddkhnaaGreatDoorM13
namespace Go.Proofs.YtgcbfggoddkhnaaGreatDoor
open Go.RowKit
end Go.Proofs.YtgcbfggoddkhnaaGreatDoor
namespace Go.Proofs.YtgcbfggoddkhnaaGreatDoor
open Go.RowKit
def unfitR (c o : Ob) (q : Int) : Int :=
 if c.kind = 1 then (if ObOk o ∧ o.kids = [] ∧ o.next = 0 ∧ 0 ≤ q ∧ q ≤ 1048576 then (if FlowsL c.lab o.lab then 0 else 21) else 2) else 31
theorem unfitR_kind {c o : Ob} {q : Int} (h : c.kind ≠ 1) : unfitR c o q = 31 := by unfold unfitR; rw [if_neg h]
theorem unfitR_arg {c o : Ob} {q : Int} (h1 : c.kind = 1) (h : ¬ (ObOk o ∧ o.kids = [] ∧ o.next = 0 ∧ 0 ≤ q ∧ q ≤ 1048576)) : unfitR c o q = 2 := by unfold unfitR; rw [if_pos h1, if_neg h]
theorem unfitR_lab {c o : Ob} {q : Int} (h1 : c.kind = 1) (h : ObOk o ∧ o.kids = [] ∧ o.next = 0 ∧ 0 ≤ q ∧ q ≤ 1048576) (h2 : ¬ FlowsL c.lab o.lab) : unfitR c o q = 21 := by unfold unfitR; rw [if_pos h1, if_pos h, if_neg h2]
theorem unfitR_ok {c o : Ob} {q : Int} (h1 : c.kind = 1) (h : ObOk o ∧ o.kids = [] ∧ o.next = 0 ∧ 0 ≤ q ∧ q ≤ 1048576) (h2 : FlowsL c.lab o.lab) : unfitR c o q = 0 := by unfold unfitR; rw [if_pos h1, if_pos h, if_pos h2]
theorem unfitR_zero {c o : Ob} {q : Int} (h : unfitR c o q = 0) : c.kind = 1 ∧ (ObOk o ∧ o.kids = [] ∧ o.next = 0 ∧ 0 ≤ q ∧ q ≤ 1048576) ∧ FlowsL c.lab o.lab := by
 unfold unfitR at h
 split at h
 · rename_i h1
   split at h
   · rename_i h2
     split at h
     · exact ⟨h1, h2, ‹_›⟩
     · cases h
   · cases h
 · cases h
set_option maxRecDepth 100000 in
set_option maxHeartbeats 4000000 in
theorem unfit_any {w : World} {F G : Nat → Prop} {vc v : Value} {c o : Ob} {q : Int} (he : Env w) (hc : ObjAt w F vc c) (hcw : WideO c) (hv : ObjAt w G v o) (hw : WideO o) :
  Calls Tryz.prog 77 #[vc, v, .int .i64 q] w (RetB w (.int .i64 (unfitR c o q))) := by
 have R14 : Hid (∀ W, Below w.heap.size w W → Calls Tryz.prog 14 #[v] W (RetB W (.bool (decide (ObOk o))))) := fun W hW => right_any9 (he.on hW) (hv.read hW) hw
 have HE := Lib.hid he
 obtain ⟨vkc, ⟨vlc, vbc, voc, vec, vmc, rfl, hlc, ⟨Abc, cbc, rfl, -⟩, ⟨Aoc, coc, rfl, -⟩, ⟨Aec, cec, rfl, -⟩, ⟨Amc, cmc, rfl, -⟩⟩, ⟨Akc, ckc, rfl, -⟩⟩ := hc
 obtain ⟨vk, ⟨vl, vb, vo, ve, vm, rfl, hl, ⟨Ab, cb, rfl, -⟩, ⟨Ao, co, rfl, -⟩, ⟨Ae, ce, rfl, -⟩, ⟨Am, cm, rfl, -⟩⟩, ⟨Ak, ck, rfl, -⟩⟩ := hv
 have hlc := hlc.on (F' := No) (Below.refl _ _) (fun _ _ h => h.elim)
 have hl := hl.on (F' := No) (Below.refl _ _) (fun _ _ h => h.elim)
 obtain ⟨Alc, clc, rfl, hLabc⟩ := hlc.lab hcw.lab
 obtain ⟨Al, cl, rfl, hLab⟩ := hl.lab hw.lab
 have H116 : Hid (∀ W, Below w.heap.size w W → Calls Tryz.prog 116 #[.slice Alc c.lab.length clc, .slice Al o.lab.length cl] W (RetB W (.bool (decide (FlowsL c.lab o.lab))))) := fun W hW => flows_any (HE.out.on hW) (hLabc.on hW) (hLab.on hW)
 obtain ⟨cx, hcx⟩ : ∃ cs : Array Value, cs = #[.int .i64 c.kind, .slice Alc c.lab.length clc, .slice Akc c.kids.length ckc, .int .i64 c.next, .slice Abc c.bytes.length cbc, .slice Aoc c.own.length coc, .int .i64 c.cats, .slice Aec c.entry.length cec, .int .i64 c.ring, .slice Amc c.maps.length cmc] := ⟨_, rfl⟩
 obtain ⟨cy, hcy⟩ : ∃ cs : Array Value, cs = #[.int .i64 o.kind, .slice Al o.lab.length cl, .slice Ak o.kids.length ck, .int .i64 o.next, .slice Ab o.bytes.length cb, .slice Ao o.own.length co, .int .i64 o.cats, .slice Ae o.entry.length ce, .int .i64 o.ring, .slice Am o.maps.length cm] := ⟨_, rfl⟩
 have B0 : Hid (Below w.heap.size w ((w.alloc (.cells cx 29)).alloc (.cells cy 29))) := ((Below.refl w.heap.size w).alloc (Nat.le_refl _) _).alloc (by simp) _
 have XC : Hid (BoxAt ((w.alloc (.cells cx 29)).alloc (.cells cy 29)) w.heap.size cx 29) := (BoxAt.new w cx 29).alloc _
 have XO : Hid (BoxAt ((w.alloc (.cells cx 29)).alloc (.cells cy 29)) (w.heap.size + 1) cy 29) := by
  have h := BoxAt.new (w.alloc (.cells cx 29)) cy 29
  unfold Hid
  simpa using h
 have R1 := Lib.hid (R14.out _ B0.out)
 rw [hcx, hcy] at R1
 have CX := Lib.hid hcx
 have CY := Lib.hid hcy
 clear he hcw hw hlc hl hLabc hLab hcx hcy R14
 by_cases h1 : c.kind = 1
 case neg =>
  have k1 : (c.kind == 1) = false := by simpa using h1
  have k2 : (c.kind != 1) = true := by simpa using h1
  have HD := Lib.hid (unfitR_kind (o := o) (q := q) h1)
  clear h1
  go_enter Tryz.func77, Tryz.ntmps77
  go_wp2_with fail
  go_ret
  exact ⟨by rw [HD.out] <;> rfl, by rw [← CX.out, ← CY.out]; exact B0.out⟩
 have k1 : (c.kind == 1) = true := by simpa using h1
 have k2 : (c.kind != 1) = false := by simpa using h1
 have H1 := Lib.hid h1
 clear h1
 by_cases h2 : ObOk o
 case neg =>
  rw [decide_eq_false h2] at R1
  have HD := Lib.hid (unfitR_arg (q := q) H1.out fun h => h2 h.1)
  clear h2
  go_enter Tryz.func77, Tryz.ntmps77
  go_wp2_with (first | (go_at_call 14; refine R1.out.mono ?_; rintro e w1 ⟨rfl, hb1⟩; rw [← CX.out, ← CY.out] at hb1; have B1 := Lib.hid (next_below B0.out hb1); have x1 := XC.out.on hb1; have y1 := XO.out.on hb1; rw [CX.out] at x1; rw [CY.out] at y1; obtain ⟨q0, q1, q2, q3, q4, q5, q6, q7, q8, q9⟩ := box10 x1; obtain ⟨r0, r1, r2, r3, r4, r5, r6, r7, r8, r9⟩ := box10 y1; clear hb1 x1 y1))
  go_ret
  exact ⟨by rw [HD.out] <;> rfl, B1.out⟩
 rw [decide_eq_true h2] at R1
 have H2 := Lib.hid h2
 clear h2
 by_cases h3 : o.kids = []
 case neg =>
  have g3 : 0 < o.kids.length := List.length_pos_iff.2 h3
  have g3b : ¬ o.kids.length = 0 := by omega
  have HD := Lib.hid (unfitR_arg (q := q) H1.out fun h => h3 h.2.1)
  clear h3
  go_enter Tryz.func77, Tryz.ntmps77
  go_wp2_with (first | (go_at_call 14; refine R1.out.mono ?_; rintro e w1 ⟨rfl, hb1⟩; rw [← CX.out, ← CY.out] at hb1; have B1 := Lib.hid (next_below B0.out hb1); have x1 := XC.out.on hb1; have y1 := XO.out.on hb1; rw [CX.out] at x1; rw [CY.out] at y1; obtain ⟨q0, q1, q2, q3, q4, q5, q6, q7, q8, q9⟩ := box10 x1; obtain ⟨r0, r1, r2, r3, r4, r5, r6, r7, r8, r9⟩ := box10 y1; clear hb1 x1 y1))
  go_ret
  exact ⟨by rw [HD.out] <;> rfl, B1.out⟩
 have g3 : ¬ 0 < o.kids.length := by rw [h3]; simp
 have H3 := Lib.hid h3
 clear h3
 by_cases h4 : o.next = 0
 case neg =>
  have g4 : (o.next == 0) = false := by simpa using h4
  have g5 : (o.next != 0) = true := by simpa using h4
  have HD := Lib.hid (unfitR_arg (q := q) H1.out fun h => h4 h.2.2.1)
  clear h4
  go_enter Tryz.func77, Tryz.ntmps77
  go_wp2_with (first | (go_at_call 14; refine R1.out.mono ?_; rintro e w1 ⟨rfl, hb1⟩; rw [← CX.out, ← CY.out] at hb1; have B1 := Lib.hid (next_below B0.out hb1); have x1 := XC.out.on hb1; have y1 := XO.out.on hb1; rw [CX.out] at x1; rw [CY.out] at y1; obtain ⟨q0, q1, q2, q3, q4, q5, q6, q7, q8, q9⟩ := box10 x1; obtain ⟨r0, r1, r2, r3, r4, r5, r6, r7, r8, r9⟩ := box10 y1; clear hb1 x1 y1))
  go_ret
  exact ⟨by rw [HD.out] <;> rfl, B1.out⟩
 have g4 : (o.next == 0) = true := by simpa using h4
 have g5 : (o.next != 0) = false := by simpa using h4
 have H4 := Lib.hid h4
 clear h4
 have R60 := Lib.hid (fun W => within_any q 1048576 W)
 by_cases h5 : 0 ≤ q ∧ q ≤ 1048576
 case neg =>
  rw [decide_eq_false h5] at R60
  have HD := Lib.hid (unfitR_arg (o := o) H1.out fun h => h5 h.2.2.2)
  clear h5
  go_enter Tryz.func77, Tryz.ntmps77
  go_wp2_with (first | (go_at_call 14; refine R1.out.mono ?_; rintro e w1 ⟨rfl, hb1⟩; rw [← CX.out, ← CY.out] at hb1; have B1 := Lib.hid (next_below B0.out hb1); have x1 := XC.out.on hb1; have y1 := XO.out.on hb1; rw [CX.out] at x1; rw [CY.out] at y1; obtain ⟨q0, q1, q2, q3, q4, q5, q6, q7, q8, q9⟩ := box10 x1; obtain ⟨r0, r1, r2, r3, r4, r5, r6, r7, r8, r9⟩ := box10 y1; clear hb1 x1 y1) | (go_at_call 60; refine (R60.out _).mono ?_; rintro e w3 ⟨rfl, rfl⟩))
  go_ret
  exact ⟨by rw [HD.out] <;> rfl, B1.out⟩
 rw [decide_eq_true h5] at R60
 have H5 := Lib.hid h5
 clear h5
 by_cases h6 : FlowsL c.lab o.lab
 case neg =>
  rw [decide_eq_false h6] at H116
  have HD := Lib.hid (unfitR_lab H1.out ⟨H2.out, H3.out, H4.out, H5.out⟩ h6)
  clear h6
  go_enter Tryz.func77, Tryz.ntmps77
  go_wp2_with (first | (go_at_call 14; refine R1.out.mono ?_; rintro e w1 ⟨rfl, hb1⟩; rw [← CX.out, ← CY.out] at hb1; have B1 := Lib.hid (next_below B0.out hb1); have x1 := XC.out.on hb1; have y1 := XO.out.on hb1; rw [CX.out] at x1; rw [CY.out] at y1; obtain ⟨q0, q1, q2, q3, q4, q5, q6, q7, q8, q9⟩ := box10 x1; obtain ⟨r0, r1, r2, r3, r4, r5, r6, r7, r8, r9⟩ := box10 y1; clear hb1 x1 y1) | (go_at_call 60; refine (R60.out _).mono ?_; rintro e w3 ⟨rfl, rfl⟩) | (go_at_call 116; refine (H116.out _ B1.out).mono ?_; rintro e w2 ⟨rfl, hb2⟩; have B2 := Lib.hid (next_below B1.out hb2); clear hb2))
  go_ret
  exact ⟨by rw [HD.out] <;> rfl, B2.out⟩
 rw [decide_eq_true h6] at H116
 have HD := Lib.hid (unfitR_ok H1.out ⟨H2.out, H3.out, H4.out, H5.out⟩ h6)
 clear h6
 go_enter Tryz.func77, Tryz.ntmps77
 go_wp2_with (first | (go_at_call 14; refine R1.out.mono ?_; rintro e w1 ⟨rfl, hb1⟩; rw [← CX.out, ← CY.out] at hb1; have B1 := Lib.hid (next_below B0.out hb1); have x1 := XC.out.on hb1; have y1 := XO.out.on hb1; rw [CX.out] at x1; rw [CY.out] at y1; obtain ⟨q0, q1, q2, q3, q4, q5, q6, q7, q8, q9⟩ := box10 x1; obtain ⟨r0, r1, r2, r3, r4, r5, r6, r7, r8, r9⟩ := box10 y1; clear hb1 x1 y1) | (go_at_call 60; refine (R60.out _).mono ?_; rintro e w3 ⟨rfl, rfl⟩) | (go_at_call 116; refine (H116.out _ B1.out).mono ?_; rintro e w2 ⟨rfl, hb2⟩; have B2 := Lib.hid (next_below B1.out hb2); clear hb2))
 go_ret
 exact ⟨by rw [HD.out] <;> rfl, B2.out⟩
def roomR (T : TT) (p : List Int) (c o : Ob) (q : Int) : Int :=
 if p.length = 6 then 30 else if c.kids.length = 16 then 34 else if 1048576 < c.next then 35 else if q < uses o ∨ quotaP (atP T) p < uses c + q then 33 else 0
theorem roomR_zero {T : TT} {p : List Int} {c o : Ob} {q : Int} (h : roomR T p c o q = 0) : p.length ≠ 6 ∧ c.kids.length ≠ 16 ∧ c.next ≤ 1048576 ∧ uses o ≤ q ∧ uses c + q ≤ quotaP (atP T) p := by
 unfold roomR at h
 by_cases h1 : p.length = 6
 · rw [if_pos h1] at h; cases h
 rw [if_neg h1] at h
 by_cases h2 : c.kids.length = 16
 · rw [if_pos h2] at h; cases h
 rw [if_neg h2] at h
 by_cases h3 : 1048576 < c.next
 · rw [if_pos h3] at h; cases h
 rw [if_neg h3] at h
 by_cases h4 : q < uses o ∨ quotaP (atP T) p < uses c + q
 · rw [if_pos h4] at h; cases h
 exact ⟨h1, h2, by omega, by omega, by omega⟩
set_option maxRecDepth 100000 in
set_option maxHeartbeats 4000000 in
theorem noRoom_any {w : World} {t n : Nat} {T : TT} {F G : Nat → Prop} {A : Option Addr} {d : Nat} {p : List Int} {vc v : Value} {c o : Ob} {q : Int} (he : Env w) (ht : GivR w t n T) (hp : Pa.PL w A d p) (hn : p.length ≤ 10000000) (hc : ObjAt w F vc c) (hcw : WideO c) (hck : ObOk c) (hv : ObjAt w G v o) (hw : WideO o) (hk : ObOk o) (hq : 0 ≤ q ∧ q ≤ 1048576) :
  Calls Tryz.prog 78 #[.pointer (some ⟨t, 0, none⟩), .slice A p.length d, vc, v, .int .i64 q] w (RetB w (.int .i64 (roomR T p c o q))) := by
 have HO : Hid (∀ W, Below w.heap.size w W → Calls Tryz.prog 16 #[v] W (RetB W (.int .i64 (uses o)))) := fun W hW => uses_any (hv.read hW) hw hk.kids
 have HC : Hid (∀ W, Below w.heap.size w W → Calls Tryz.prog 16 #[vc] W (RetB W (.int .i64 (uses c)))) := fun W hW => uses_any (hc.read hW) hcw hck.kids
 have HQ : Hid (∀ W, Below w.heap.size w W → Calls Tryz.prog 28 #[.pointer (some ⟨t, 0, none⟩), .slice A p.length d] W (RetB W (.int .i64 (quotaP (atP T) p)))) := fun W hW => quota_any (he.on hW) (ht.on hW) (hp.on hW) hn
 have hU := hck.uses
 have hq1 := hq.1
 have hq2 := hq.2
 have hnx := hcw.next
 have n1 : -9223372036854775808 ≤ c.next := hnx.1
 have n2 : c.next ≤ 9223372036854775807 := hnx.2
 obtain ⟨vkc, ⟨vlc, vbc, voc, vec, vmc, rfl, hlc, ⟨Abc, cbc, rfl, -⟩, ⟨Aoc, coc, rfl, -⟩, ⟨Aec, cec, rfl, -⟩, ⟨Amc, cmc, rfl, -⟩⟩, ⟨Akc, ckc, rfl, -⟩⟩ := hc
 obtain ⟨vk, ⟨vl, vb, vo, ve, vm, rfl, hl, ⟨Ab, cb, rfl, -⟩, ⟨Ao, co, rfl, -⟩, ⟨Ae, ce, rfl, -⟩, ⟨Am, cm, rfl, -⟩⟩, ⟨Ak, ck, rfl, -⟩⟩ := hv
 obtain ⟨cx, hcx⟩ : ∃ cs : Array Value, cs = #[.int .i64 c.kind, vlc, .slice Akc c.kids.length ckc, .int .i64 c.next, .slice Abc c.bytes.length cbc, .slice Aoc c.own.length coc, .int .i64 c.cats, .slice Aec c.entry.length cec, .int .i64 c.ring, .slice Amc c.maps.length cmc] := ⟨_, rfl⟩
 obtain ⟨cy, hcy⟩ : ∃ cs : Array Value, cs = #[.int .i64 o.kind, vl, .slice Ak o.kids.length ck, .int .i64 o.next, .slice Ab o.bytes.length cb, .slice Ao o.own.length co, .int .i64 o.cats, .slice Ae o.entry.length ce, .int .i64 o.ring, .slice Am o.maps.length cm] := ⟨_, rfl⟩
 have B0 : Hid (Below w.heap.size w ((w.alloc (.cells cx 29)).alloc (.cells cy 29))) := ((Below.refl w.heap.size w).alloc (Nat.le_refl _) _).alloc (by simp) _
 have XC : Hid (BoxAt ((w.alloc (.cells cx 29)).alloc (.cells cy 29)) w.heap.size cx 29) := (BoxAt.new w cx 29).alloc _
 have R1 := Lib.hid (HO.out _ B0.out)
 rw [hcx, hcy] at R1
 obtain ⟨U, hUe⟩ : ∃ U, U = uses c := ⟨_, rfl⟩
 obtain ⟨V, hVe⟩ : ∃ V, V = uses o := ⟨_, rfl⟩
 obtain ⟨Q, hQe⟩ : ∃ Q, Q = quotaP (atP T) p := ⟨_, rfl⟩
 have HR : Hid (roomR T p c o q = if p.length = 6 then 30 else if c.kids.length = 16 then 34 else if 1048576 < c.next then 35 else if q < V ∨ Q < U + q then 33 else 0) := by unfold Hid roomR; rw [hUe, hVe, hQe]
 rw [← hUe] at hU HC
 rw [← hVe] at R1
 rw [← hQe] at HQ
 have hU1 := hU.1
 have hU2 := hU.2
 have CX := Lib.hid hcx
 have CY := Lib.hid hcy
 clear he ht hp hn hcw hck hw hk hq hlc hl hcx hcy HO hU hUe hVe hQe hnx
 by_cases h1 : p.length = 6
 case pos =>
  have k1 : ((p.length : Int) == 6) = true := by rw [h1]; rfl
  have HD := Lib.hid (HR.out.trans (if_pos h1))
  clear h1
  go_enter Tryz.func78, Tryz.ntmps78
  go_wp2_with (fail)
  go_ret
  exact ⟨by rw [HD.out] <;> rfl, by rw [← CX.out, ← CY.out]; exact B0.out⟩
 have k1 : ((p.length : Int) == 6) = false := by simp; omega
 have HR := Lib.hid (HR.out.trans (if_neg h1))
 by_cases h2 : c.kids.length = 16
 case pos =>
  have k2 : ((c.kids.length : Int) == 16) = true := by rw [h2]; rfl
  have HD := Lib.hid (HR.out.trans (if_pos h2))
  clear h2
  go_enter Tryz.func78, Tryz.ntmps78
  go_wp2_with (fail)
  go_ret
  exact ⟨by rw [HD.out] <;> rfl, by rw [← CX.out, ← CY.out]; exact B0.out⟩
 have k2 : ((c.kids.length : Int) == 16) = false := by simp; omega
 have HR := Lib.hid (HR.out.trans (if_neg h2))
 by_cases h3 : 1048576 < c.next
 case pos =>
  have HD := Lib.hid (HR.out.trans (if_pos h3))
  go_enter Tryz.func78, Tryz.ntmps78
  go_wp2_with (fail)
  go_ret
  exact ⟨by rw [HD.out] <;> rfl, by rw [← CX.out, ← CY.out]; exact B0.out⟩
 have HR := Lib.hid (HR.out.trans (if_neg h3))
 by_cases h4 : q < V
 case pos =>
  have HD := Lib.hid (HR.out.trans (if_pos (.inl h4)))
  go_enter Tryz.func78, Tryz.ntmps78
  go_wp2_with (first | (go_at_call 16; refine R1.out.mono ?_; rintro e w1 ⟨rfl, hb1⟩; rw [← CX.out, ← CY.out] at hb1; have B1 := Lib.hid (next_below B0.out hb1); have x1 := XC.out.on hb1; rw [CX.out] at x1; obtain ⟨q0, q1, q2, q3, q4, q5, q6, q7, q8, q9⟩ := box10 x1; clear hb1 x1))
  go_ret
  exact ⟨by rw [HD.out] <;> rfl, B1.out⟩
 by_cases h5 : Q < U + q
 case pos =>
  have HD := Lib.hid (HR.out.trans (if_pos (.inr h5)))
  go_enter Tryz.func78, Tryz.ntmps78
  go_wp2_with (first | (go_at_call 16; refine (HC.out _ B1.out).mono ?_; rintro e w2 ⟨rfl, hb2⟩; have B2 := Lib.hid (next_below B1.out hb2); clear hb2) | (go_at_call 16; refine R1.out.mono ?_; rintro e w1 ⟨rfl, hb1⟩; rw [← CX.out, ← CY.out] at hb1; have B1 := Lib.hid (next_below B0.out hb1); have x1 := XC.out.on hb1; rw [CX.out] at x1; obtain ⟨q0, q1, q2, q3, q4, q5, q6, q7, q8, q9⟩ := box10 x1; clear hb1 x1) | (go_at_call 28; refine (HQ.out _ B2.out).mono ?_; rintro e w3 ⟨rfl, hb3⟩; have B3 := Lib.hid (next_below B2.out hb3); clear hb3))
  go_ret
  exact ⟨by rw [HD.out] <;> rfl, B3.out⟩
 have HD := Lib.hid (HR.out.trans (if_neg fun h => h.elim h4 h5))
 go_enter Tryz.func78, Tryz.ntmps78
 go_wp2_with (first | (go_at_call 16; refine (HC.out _ B1.out).mono ?_; rintro e w2 ⟨rfl, hb2⟩; have B2 := Lib.hid (next_below B1.out hb2); clear hb2) | (go_at_call 16; refine R1.out.mono ?_; rintro e w1 ⟨rfl, hb1⟩; rw [← CX.out, ← CY.out] at hb1; have B1 := Lib.hid (next_below B0.out hb1); have x1 := XC.out.on hb1; rw [CX.out] at x1; obtain ⟨q0, q1, q2, q3, q4, q5, q6, q7, q8, q9⟩ := box10 x1; clear hb1 x1) | (go_at_call 28; refine (HQ.out _ B2.out).mono ?_; rintro e w3 ⟨rfl, hb3⟩; have B3 := Lib.hid (next_below B2.out hb3); clear hb3))
 go_ret
 exact ⟨by rw [HD.out] <;> rfl, B3.out⟩
end Go.Proofs.YtgcbfggoddkhnaaGreatDoor
namespace Go.Proofs.YtgcbfggoddkhnaaGreatDoor
open Go.RowKit
noncomputable def setR (T : TT) (p : List Int) (o : Ob) : Int := match T (Pa.zText p) with
 | none => 30
 | some was => if was.kind = o.kind then (if ObOk o ∧ was.kids = o.kids ∧ was.next = o.next ∧ FitO (atP T) p o then (if quotaP (atP T) p < uses o then 33 else 0) else 2) else 31
def RetSet (w : World) (F : Nat → Prop) (t n : Nat) (T : TT) (p : List Int) (o : Ob) (e : Ending) (w' : World) : Prop :=
 e = .returned (.int .i64 (setR T p o)) ∧ ∃ F', TabAt w' F' t (n + 1) (if setR T p o = 0 then updT T (Pa.zText p) o else T) ∧ Stp w F w' F'
theorem RetSet.same {w w' : World} {F : Nat → Prop} {t n : Nat} {T : TT} {p : List Int} {o : Ob} {e : Ending} {z : Int} (ht : TabAt w F t n T) (hb : Below w.heap.size w w') (hz : setR T p o = z) (h0 : z ≠ 0) (he : e = .returned (.int .i64 z)) : RetSet w F t n T p o e w' := by
 subst hz
 exact ⟨he, F, by rw [if_neg h0]; exact (ht.on hb).more (by omega), Stp.of_below hb⟩
theorem RetSet.put {w w' : World} {F : Nat → Prop} {t n : Nat} {T : TT} {p : List Int} {o : Ob} {e : Ending} (hz : setR T p o = 0) (he : e = .returned (.int .i64 0)) (h : ∃ F', TabAt w' F' t (n + 1) (updT T (Pa.zText p) o) ∧ Stp w F w' F') : RetSet w F t n T p o e w' := by
 refine ⟨by rw [hz]; exact he, ?_⟩
 rw [if_pos hz]
 exact h
end Go.Proofs.YtgcbfggoddkhnaaGreatDoor
namespace Go.Proofs.YtgcbfggoddkhnaaGreatDoor
open Go.RowKit
structure IsT (T : TT) (L : Tab) : Prop where
 at' : ∀ p, T (Pa.zText p) = fnd L p
 key : ∀ s o, T s = some o → ∃ p, s = Pa.zText p
theorem IsT.atP {T : TT} {L : Tab} (h : IsT T L) : atP T = fnd L := funext fun p => h.at' p
theorem IsT.upd {T : TT} {L : Tab} (h : IsT T L) (hA : Asc L) (p : List Int) (o : Ob) : IsT (updT T (Pa.zText p) o) (lay L p o) where
 at' := fun q => by
  unfold updT
  rw [fnd_lay hA]
  by_cases e : q = p
  · rw [if_pos e, if_pos (by rw [e])]
  · rw [if_neg e, if_neg (fun h => e (zText_inj h)), h.at']
 key := fun s o' hs => by
  unfold updT at hs
  split at hs
  · exact ⟨p, ‹_›⟩
  · exact h.key s o' hs
structure TabX (w : World) (F : Nat → Prop) (t bm n : Nat) (T : TT) (V K : List UInt8 → Value) (s : List UInt8) : Prop where
 var : w.cell? ⟨t, 0, none⟩ = some (.map (some bm))
 map : MapV w bm n T V
 wide : ∀ s o, T s = some o → WideO o
 ob : ∀ s' o, T s' = some o → s' ≠ s → ObjK w F (V s') (K s') o
 row : ∀ s' o, T s' = some o → s' ≠ s → w.ownsRow 0 85 3 (K s') o.kids.length (kidCells o.kids)
 isF : F bm
 inF : ∀ s o, T s = some o → ∀ b, (K s).ownBlock = some b → F b
 ltF : ∀ b, F b → b < w.heap.size
 dist : ∀ s s' o o', T s = some o → T s' = some o' → s ≠ s' → ∀ b, (K s).ownBlock = some b → (K s').ownBlock ≠ some b
 notF : ¬ F t
 alone : ∀ o, T s = some o → (K s).ownBlock ≠ some bm
theorem TabIs.but {S : Nat → Prop} {w w' : World} {F : Nat → Prop} {t bm n : Nat} {T : TT} {V K : List UInt8 → Value} (h : TabIs w F t bm n T V K) {s : List UInt8} (hk : Tp.Kp S w w') (hS : ∀ b, b < w.heap.size → S b → F b ∧ b ≠ bm ∧ ∀ s' o', T s' = some o' → s' ≠ s → (K s').ownBlock ≠ some b) : TabX w' F t bm n T V K s where
 var := hk.cell h.var fun e => h.notF (hS t h.tlt e).1
 map := h.map.kp hk fun e => (hS bm h.map.lt e).2.1 rfl
 wide := h.wide
 ob := fun s' o ho _ => (h.ob s' o ho).kp hk (fun b hb e => (hS b hb e).1) fun _ _ h => h
 row := fun s' o ho hne => own_kp (h.row s' o ho) hk fun b hb e => (hS b (own_block (h.row s' o ho) hb).2.1 e).2.2 s' o ho hne hb
 isF := h.isF
 inF := h.inF
 ltF := fun b hb => Nat.lt_of_lt_of_le (h.ltF b hb) hk.size
 dist := h.dist
 notF := h.notF
 alone := fun o ho => h.map.not_row (h.row s o ho)
theorem TabIs.grow {w w' : World} {F : Nat → Prop} {t bm n : Nat} {T : TT} {V K : List UInt8 → Value} (h : TabIs w F t bm n T V K) (hb : Below w.heap.size w w') : TabIs w' (fun x => F x ∨ (w.heap.size ≤ x ∧ x < w'.heap.size)) t bm n T V K where
 var := (h.on hb).var
 map := (h.on hb).map
 wide := h.wide
 ob := fun s' o ho => (h.ob s' o ho).on hb fun b hb h => h.elim id fun h => by omega
 row := (h.on hb).row
 isF := .inl h.isF
 inF := fun s o ho b hb => .inl (h.inF s o ho b hb)
 ltF := fun b hb' => hb'.elim (fun h' => Nat.lt_of_lt_of_le (h.ltF b h') hb.size) fun h => h.2
 dist := h.dist
 notF := fun e => e.elim h.notF fun e => by have := h.tlt; omega
theorem TabX.on {w w' : World} {F : Nat → Prop} {t bm n : Nat} {T : TT} {V K : List UInt8 → Value} {s : List UInt8} (h : TabX w F t bm n T V K s) (hb : Below w.heap.size w w') : TabX w' F t bm n T V K s where
 var := (hb.cell (p := ⟨t, 0, none⟩) (World.block_lt_of_cell? w _ h.var)).trans h.var
 map := h.map.on hb
 wide := h.wide
 ob := fun s' o ho hne => (h.ob s' o ho hne).on hb fun _ _ h => h
 row := fun s' o ho hne => own_on (h.row s' o ho hne) hb
 isF := h.isF
 inF := h.inF
 ltF := fun b hb' => Nat.lt_of_lt_of_le (h.ltF b hb') hb.size
 dist := h.dist
 notF := h.notF
 alone := h.alone
set_option maxRecDepth 100000 in
theorem TabX.put {w : World} {F : Nat → Prop} {t bm n : Nat} {T : TT} {V K : List UInt8 → Value} {s : List UInt8} (h : TabX w F t bm n T V K s) (hn : n ≤ 100000000000) (hs : s.length ≤ 100000000000) {v vk : Value} {o : Ob} (hw : WideO o)
   (hob : ObjK w (fun x => F x ∨ vk.ownBlock = some x) v vk o) (hrow : w.ownsRow 0 85 3 vk o.kids.length (kidCells o.kids)) (hnew : ∀ b, vk.ownBlock = some b → ¬ F b ∨ ((T s).isSome = true ∧ (K s).ownBlock = some b))
   (hold : ∀ s' o', T s' = some o' → s' ≠ s → ObjK w (fun x => F x ∨ vk.ownBlock = some x) (V s') (K s') o') (ht : vk.ownBlock ≠ some t) :
   TabIs (putW bm s v w) (fun x => F x ∨ vk.ownBlock = some x) t bm (n + 1) (updT T s o) (updV V s v) (updV K s vk) ∧ Tp.Kp (fun b => b = bm) w (putW bm s v w) := by
 obtain ⟨_, hm, hg⟩ := h.map.put hn hs v
 clear hn hs
 have hkp : Tp.Kp (fun b => b = bm) w (putW bm s v w) := (Tp.Kp.refl (fun b => b = bm) w).grown hg fun k e _ => by injection e with e; exact e.symm
 have hSF : ∀ b, b < w.heap.size → b = bm → F b ∨ vk.ownBlock = some b := fun b _ e => .inl (by rw [e]; exact h.isF)
 refine ⟨?_, hkp⟩
 refine { var := hkp.cell h.var (fun e => ?_), map := hm o, wide := fun s' o' h' => ?_, ob := fun s' o' h' => ?_, row := fun s' o' h' => ?_, isF := .inl h.isF, inF := fun s' o' h' b hb => ?_, ltF := fun b hb => ?_, dist := fun s1 s2 o1 o2 h1 h2 hne b hb => ?_, notF := ?_ }
 · exact h.map.ne h.var e
 · unfold updT at h'
   split at h'
   · injection h' with h'; subst h'; exact hw
   · exact h.wide s' o' h'
 · unfold updT at h'
   unfold updV
   split at h'
   · rename_i e
     injection h' with h'; subst h' e
     rw [if_pos rfl, if_pos rfl]
     exact hob.kp hkp hSF (fun _ _ h => h)
   · rename_i e
     rw [if_neg e, if_neg e]
     exact (hold s' o' h' e).kp hkp hSF (fun _ _ h => h)
 · unfold updT at h'
   unfold updV
   split at h'
   · rename_i e
     injection h' with h'; subst h' e
     rw [if_pos rfl]
     exact own_kp hrow hkp fun b hb e => h.map.not_row hrow (by rw [hb, e])
   · rename_i e
     rw [if_neg e]
     exact own_kp (h.row s' o' h' e) hkp fun b hb e' => h.map.not_row (h.row s' o' h' e) (by rw [hb, e'])
 · unfold updT at h'
   unfold updV at hb
   split at h'
   · rename_i e
     subst e
     rw [if_pos rfl] at hb
     exact .inr hb
   · rename_i e
     rw [if_neg e] at hb
     exact .inl (h.inF s' o' h' b hb)
 · refine Nat.lt_of_lt_of_le ?_ hkp.size
   rcases hb with hb | hb
   · exact h.ltF b hb
   · exact (own_block hrow hb).2.1
 · unfold updT at h1 h2
   unfold updV at hb ⊢
   split at h1
   · rename_i e1
     subst e1
     have e2 : ¬ s2 = s1 := fun e => hne e.symm
     rw [if_neg e2] at h2 ⊢
     rw [if_pos rfl] at hb
     intro hb2
     rcases hnew b hb with h3 | ⟨h3, h4⟩
     · exact h3 (h.inF s2 o2 h2 b hb2)
     · obtain ⟨o', h3⟩ := Option.isSome_iff_exists.1 h3
       exact h.dist s1 s2 o' o2 h3 h2 hne b h4 hb2
   · rename_i e1
     rw [if_neg e1] at hb
     split at h2
     · rename_i e2
       subst e2
       rw [if_pos rfl]
       intro hb2
       rcases hnew b hb2 with h3 | ⟨h3, h4⟩
       · exact h3 (h.inF s1 o1 h1 b hb)
       · obtain ⟨o', h3⟩ := Option.isSome_iff_exists.1 h3
         exact h.dist s1 s2 o1 o' h1 h3 hne b hb h4
     · rename_i e2
       rw [if_neg e2]
       exact h.dist s1 s2 o1 o2 h1 h2 hne b hb
 · rintro (hb | hb)
   · exact h.notF hb
   · exact ht hb
end Go.Proofs.YtgcbfggoddkhnaaGreatDoor
namespace Go.Proofs.YtgcbfggoddkhnaaGreatDoor
open Pa
theorem countP_or {α : Type} (a b : α → Bool) : ∀ {l : List α}, (∀ x ∈ l, ¬ (a x = true ∧ b x = true)) → l.countP (fun x => a x || b x) = l.countP a + l.countP b
 | [], _ => rfl
 | x :: r, h => by
  have ih := countP_or a b (l := r) fun y hy => h y (List.mem_cons_of_mem _ hy)
  have hx := h x (by simp)
  rw [List.countP_cons, List.countP_cons, List.countP_cons, ih]
  cases ha : a x <;> cases hb : b x <;> simp [ha, hb] at hx ⊢ <;> omega
def cnt (L : Tab) (q : List Int) : Nat := L.countP fun x => decide (q <+: x.1)
theorem cnt_le (L : Tab) (q : List Int) : cnt L q ≤ L.length := List.countP_le_length
theorem cnt_pos {L : Tab} {q : List Int} {o : Ob} (h : fnd L q = some o) : 1 ≤ cnt L q := by
 have := List.countP_pos_iff (p := fun x : Item => decide (q <+: x.1)) (l := L) |>.2 ⟨(q, o), fnd_mem h, by simp⟩
 unfold cnt
 omega
theorem countP_key {L : Tab} (hA : Asc L) (q : List Int) {o : Ob} (h : fnd L q = some o) : L.countP (fun x => decide (x.1 = q)) = 1 := by
 induction L with
 | nil => cases h
 | cons y r ih =>
  obtain ⟨h1, h2⟩ := List.pairwise_cons.1 hA
  rw [List.countP_cons]
  rw [fnd] at h
  by_cases e : y.1 = q
  · rw [if_pos (by simpa using e)]
    have : r.countP (fun x => decide (x.1 = q)) = 0 := List.countP_eq_zero.2 fun x hx hq => by
     simp at hq
     exact cmpZ_ne (h1 x hx) (e.trans hq.symm)
    omega
  · rw [if_neg e] at h
    rw [if_neg (by simpa using e), ih h2 h]
theorem cnt_kids (L : Tab) (q : List Int) : ∀ ks : List Kd, ks.Pairwise (fun a b => a.1 < b.1) → L.countP (fun x => decide (∃ k ∈ ks, q ++ [k.1] <+: x.1)) = (ks.map fun k => cnt L (q ++ [k.1])).sum
 | [], _ => by simp
 | k :: r, h => by
  obtain ⟨h1, h2⟩ := List.pairwise_cons.1 h
  have ih := cnt_kids L q r h2
  rw [List.map_cons, List.sum_cons, ← ih]
  unfold cnt
  rw [← countP_or]
  · refine List.countP_congr fun x _ => ?_
    simp only [List.mem_cons, decide_eq_true_eq, Bool.or_eq_true]
    constructor
    · rintro ⟨k', hk' | hk', hp⟩
      · subst hk'
        exact .inl hp
      · exact .inr ⟨k', hk', hp⟩
    · rintro (hp | ⟨k', hk', hp⟩)
      · exact ⟨k, .inl rfl, hp⟩
      · exact ⟨k', .inr hk', hp⟩
  · rintro x _ ⟨ha, hb⟩
    simp only [decide_eq_true_eq] at ha hb
    obtain ⟨k', hk', hb⟩ := hb
    have hlt := h1 k' hk'
    have := List.prefix_of_prefix_length_le ha hb (by simp)
    obtain ⟨t, ht⟩ := this
    have hl := congrArg List.length ht
    simp at hl
    subst hl
    simp at ht
    omega
theorem prefix_next {p q : List Int} (h : p <+: q) (hne : p ≠ q) : ∃ n r, q = p ++ n :: r := by
 obtain ⟨t, ht⟩ := h
 cases t with
 | nil => exact absurd (by simpa using ht) hne
 | cons n r => exact ⟨n, r, ht.symm⟩
theorem ValT.above {L : Tab} (h : ValT L) : ∀ (n : Nat) (r : List Int), r.length = n → ∀ {p : List Int} {o : Ob}, fnd L (p ++ r) = some o → ∃ c, fnd L p = some c
 | 0, r, hr, p, o, ho => by
  have : r = [] := List.eq_nil_of_length_eq_zero hr
  subst this
  exact ⟨o, by simpa using ho⟩
 | n + 1, r, hr, p, o, ho => by
  rcases List.eq_nil_or_concat r with e | ⟨s, m, e⟩
  · subst e; simp at hr
  · rw [List.concat_eq_append] at e
    subst e
    rw [← List.append_assoc] at ho
    obtain ⟨c, hc, _⟩ := h.entry ho
    exact h.above n s (by simpa using hr) hc
theorem ValT.below_kid {L : Tab} (h : ValT L) {p q : List Int} {o d : Ob} (hp : fnd L p = some o) (hq : fnd L q = some d) (hpq : p <+: q) (hne : p ≠ q) : ∃ k ∈ o.kids, p ++ [k.1] <+: q := by
 obtain ⟨n, r, e⟩ := prefix_next hpq hne
 subst e
 have e2 : p ++ n :: r = (p ++ [n]) ++ r := by simp
 rw [e2] at hq
 obtain ⟨c, hc⟩ := h.above _ r rfl hq
 obtain ⟨o', ho', k, hk, hkn, _⟩ := h.entry hc
 rw [hp] at ho'
 cases ho'
 exact ⟨k, hk, r, by rw [e2, hkn]⟩
theorem ValT.cnt_split {L : Tab} (h : ValT L) {q : List Int} {o : Ob} (hq : fnd L q = some o) : cnt L q = 1 + (o.kids.map fun k => cnt L (q ++ [k.1])).sum := by
 rw [← cnt_kids L q o.kids (h.obAt hq).kids.2.2, ← countP_key h.asc q hq, ← countP_or]
 · unfold cnt
   refine List.countP_congr fun x hx => ?_
   simp only [Bool.or_eq_true, decide_eq_true_eq]
   constructor
   · intro hp
     by_cases e : q = x.1
     · exact .inl e.symm
     · exact .inr (h.below_kid hq (fnd_of h.asc hx) hp e)
   · rintro (e | ⟨k, _, hk⟩)
     · rw [e]; exact List.prefix_rfl
     · exact (List.prefix_append q [k.1]).trans hk
 · rintro x _ ⟨ha, hb⟩
   simp only [decide_eq_true_eq] at ha hb
   obtain ⟨k, _, hk⟩ := hb
   rw [ha] at hk
   have := hk.length_le
   simp at this
   omega
structure RemI (L : Tab) (p : List Int) (W : List (List Int)) (m : Nat) : Prop where
 there : ∀ x ∈ W, p <+: x ∧ (fnd L x).isSome = true
 apart : W.Pairwise fun x y => ¬ x <+: y ∧ ¬ y <+: x
 sum : m + (W.map (cnt L)).sum = cnt L p
theorem RemI.start {L : Tab} {p : List Int} (h : (fnd L p).isSome = true) : RemI L p [p] 0 :=
 ⟨fun x hx => by simp at hx; subst hx; exact ⟨List.prefix_rfl, h⟩, List.pairwise_singleton _ _, by simp⟩
theorem RemI.step {L : Tab} {p x : List Int} {W : List (List Int)} {m : Nat} {o : Ob} (hv : ValT L) (h : RemI L p (W ++ [x]) m) (hx : fnd L x = some o) : RemI L p (W ++ o.kids.map fun k => x ++ [k.1]) (m + 1) := by
 have hxp := (h.there x (by simp)).1
 have hap := List.pairwise_append.1 h.apart
 refine ⟨fun y hy => ?_, ?_, ?_⟩
 · rcases List.mem_append.1 hy with hy | hy
   · exact h.there y (List.mem_append_left _ hy)
   · obtain ⟨k, hk, rfl⟩ := List.mem_map.1 hy
     obtain ⟨_, d, hd, _⟩ := hv.holds _ (fnd_mem hx) k hk
     exact ⟨hxp.trans (List.prefix_append _ _), by rw [show fnd L (x ++ [k.1]) = some d from hd]; rfl⟩
 · rw [List.pairwise_append]
   refine ⟨hap.1, ?_, fun a ha b hb => ?_⟩
   · rw [List.pairwise_map]
     refine (hv.obAt hx).kids.2.2.imp fun {a b} hab => ?_
     constructor <;> rintro ⟨t, ht⟩
     · have hl := congrArg List.length ht
       simp at hl
       subst hl
       simp at ht
       omega
     · have hl := congrArg List.length ht
       simp at hl
       subst hl
       simp at ht
       omega
   · obtain ⟨k, hk, rfl⟩ := List.mem_map.1 hb
     have h1 := hap.2.2 a ha x (by simp)
     refine ⟨fun e => ?_, fun e => h1.2 ((List.prefix_append _ _).trans e)⟩
     rcases prefix_snoc_iff.1 e with e | e
     · exact h1.1 e
     · exact h1.2 (by rw [e]; exact List.prefix_append _ _)
 · have h1 := h.sum
   have h2 := hv.cnt_split hx
   rw [List.map_append, List.sum_append] at h1 ⊢
   simp only [List.map_cons, List.map_nil, List.sum_cons, List.sum_nil, List.map_map, Function.comp_def] at h1 ⊢
   omega
theorem RemI.len {L : Tab} {p : List Int} {W : List (List Int)} {m : Nat} (h : RemI L p W m) : m + W.length ≤ cnt L p := by
 have key : ∀ W : List (List Int), (∀ x ∈ W, (fnd L x).isSome = true) → W.length ≤ (W.map (cnt L)).sum := by
  intro W
  induction W with
  | nil => intro _; simp
  | cons x r ih =>
   intro hW
   have h1 := ih fun y hy => hW y (List.mem_cons_of_mem _ hy)
   obtain ⟨o, ho⟩ := Option.isSome_iff_exists.1 (hW x (by simp))
   have h2 := cnt_pos ho
   simp
   omega
 have := key W fun x hx => (h.there x hx).2
 have := h.sum
 omega
structure RemT (T' T1 : TT) (p : List Int) (W : List (List Int)) : Prop where
 at' : ∀ q, T' (zText q) = if p <+: q ∧ ¬ ∃ x ∈ W, x <+: q then none else T1 (zText q)
 key : ∀ s o, T' s = some o → ∃ q, s = zText q
theorem RemT.start {T1 : TT} (p : List Int) (hk : ∀ s o, T1 s = some o → ∃ q, s = zText q) : RemT T1 T1 p [p] :=
 ⟨fun q => by rw [if_neg]; rintro ⟨h1, h2⟩; exact h2 ⟨p, by simp, h1⟩, hk⟩
theorem RemT.step {L : Tab} {T' T1 : TT} {p x : List Int} {W : List (List Int)} {m : Nat} {o : Ob} (hv : ValT L) (hI : RemI L p (W ++ [x]) m) (h : RemT T' T1 p (W ++ [x])) (hx : fnd L x = some o) (hT : ∀ q, p <+: q → T1 (zText q) = fnd L q) :
   RemT (delT T' (zText x)) T1 p (W ++ o.kids.map fun k => x ++ [k.1]) := by
 have hxp := (hI.there x (by simp)).1
 have hap := List.pairwise_append.1 hI.apart
 refine ⟨fun q => ?_, fun s o' hs => ?_⟩
 · unfold delT
   by_cases e : q = x
   · subst e
     rw [if_pos rfl, if_pos]
     refine ⟨hxp, ?_⟩
     rintro ⟨y, hy, hyq⟩
     rcases List.mem_append.1 hy with hy | hy
     · exact (hap.2.2 y hy q (by simp)).1 hyq
     · obtain ⟨k, _, rfl⟩ := List.mem_map.1 hy
       have := hyq.length_le
       simp at this
       omega
   · rw [if_neg (fun h => e (zText_inj h)), h.at']
     by_cases hp : p <+: q
     · by_cases h1 : ∃ y ∈ W ++ o.kids.map (fun k => x ++ [k.1]), y <+: q
       · rw [if_neg (c := p <+: q ∧ ¬ ∃ y ∈ W ++ o.kids.map (fun k => x ++ [k.1]), y <+: q) (fun h => h.2 h1), if_neg]
         rintro ⟨_, h2⟩
         obtain ⟨y, hy, hyq⟩ := h1
         rcases List.mem_append.1 hy with hy | hy
         · exact h2 ⟨y, List.mem_append_left _ hy, hyq⟩
         · obtain ⟨k, _, rfl⟩ := List.mem_map.1 hy
           exact h2 ⟨x, by simp, (List.prefix_append _ _).trans hyq⟩
       · rw [if_pos (c := p <+: q ∧ ¬ ∃ y ∈ W ++ o.kids.map (fun k => x ++ [k.1]), y <+: q) ⟨hp, h1⟩]
         split
         · rfl
         · rename_i h2
           rw [hT q hp]
           cases hq : fnd L q with
           | none => rfl
           | some d =>
            exfalso
            have h3 : ∃ y ∈ W ++ [x], y <+: q := by
              by_cases h3 : ∃ y ∈ W ++ [x], y <+: q
              · exact h3
              · exact absurd ⟨hp, h3⟩ h2
            obtain ⟨y, hy, hyq⟩ := h3
            rcases List.mem_append.1 hy with hy | hy
            · exact h1 ⟨y, List.mem_append_left _ hy, hyq⟩
            · simp at hy
              subst hy
              obtain ⟨k, hk, hkq⟩ := hv.below_kid hx hq hyq (fun h => e h.symm)
              exact h1 ⟨_, List.mem_append_right _ (List.mem_map_of_mem hk), hkq⟩
     · rw [if_neg (fun h => hp h.1), if_neg (fun h => hp h.1)]
 · unfold delT at hs
   split at hs
   · cases hs
   · exact h.key s o' hs
theorem RemT.last {T' T1 : TT} {p : List Int} {M : Tab} (h : RemT T' T1 p []) (hA : Asc M) (hT : IsT T1 M) : IsT T' (cut M p) where
 at' := fun q => by
  rw [h.at', fnd_cut hA, hT.at']
  by_cases hp : p <+: q
  · rw [if_pos hp, if_pos]; exact ⟨hp, by simp⟩
  · rw [if_neg hp, if_neg]; exact fun h => hp h.1
 key := h.key
theorem RemT.next {L : Tab} {T' T1 : TT} {p x : List Int} {W : List (List Int)} {m : Nat} (hI : RemI L p (W ++ [x]) m) (h : RemT T' T1 p (W ++ [x])) (hT : ∀ q, p <+: q → T1 (zText q) = fnd L q) : T' (zText x) = fnd L x := by
 rw [h.at', if_neg, hT x (hI.there x (by simp)).1]
 rintro ⟨_, h2⟩
 exact h2 ⟨x, by simp, List.prefix_rfl⟩
end Go.Proofs.YtgcbfggoddkhnaaGreatDoor
