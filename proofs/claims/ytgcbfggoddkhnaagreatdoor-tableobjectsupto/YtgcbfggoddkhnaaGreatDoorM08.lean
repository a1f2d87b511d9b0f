/- Lemmas for the law: Xf, Xu, Xv, Ob, Sort, O, S, Oc. -/
import Derived.Test.YtgcbfggoddkhnaaGreatDoorM07
import Derived.Test.YtgcbfggoddkhnaaGreatDoorM01
import Derived.Test.YtgcbfggoddkhnaaGreatDoorM04
import Derived.Shelf.SlSortCmp.NoneTotal
import Derived.Test.YtgcbfggoddkhnaaGreatDoorProg
import Derived.Test.YtgcbfggoddkhnaaGreatDoorM02
import Derived.Test.YtgcbfggoddkhnaaGreatDoorM03
import Derived.Maps.AppendAt
namespace Go.Proofs.YtgcbfggoddkhnaaGreatDoor
open Go.RowKit
set_option maxRecDepth 100000 in
set_option maxHeartbeats 4000000 in
theorem fields_any {w : World} {F : Nat → Prop} {v : Value} {o : Ob} (h : ObjAt w F v o) : Calls Tryz.prog 63 #[v] w fun e w' => e = .returned (.bool (decide (FieldsOk o))) ∧ Below w.heap.size w w' := by
 obtain ⟨vk, ⟨vl, vb, vo, ve, vm, rfl, ⟨Al, cl, rfl, -⟩, ⟨Ab, cb, rfl, -⟩, ⟨Ao, co, rfl, -⟩, ⟨Ae, ce, rfl, -⟩, ⟨Am, cm, rfl, -⟩⟩, ⟨Ak, ck, rfl, -⟩⟩ := h
 obtain ⟨nk, hnk⟩ : ∃ n, n = o.kids.length := ⟨_, rfl⟩
 obtain ⟨nb, hnb⟩ : ∃ n, n = o.bytes.length := ⟨_, rfl⟩
 obtain ⟨no, hno⟩ : ∃ n, n = o.own.length := ⟨_, rfl⟩
 obtain ⟨ne, hne⟩ : ∃ n, n = o.entry.length := ⟨_, rfl⟩
 obtain ⟨nm, hnm⟩ : ∃ n, n = o.maps.length := ⟨_, rfl⟩
 obtain ⟨k, hkk⟩ : ∃ n, n = o.kind := ⟨_, rfl⟩
 obtain ⟨nx, hnx⟩ : ∃ n, n = o.next := ⟨_, rfl⟩
 obtain ⟨ca, hca⟩ : ∃ n, n = o.cats := ⟨_, rfl⟩
 obtain ⟨ri, hri⟩ : ∃ n, n = o.ring := ⟨_, rfl⟩
 have HD : Hid (decide (FieldsOk o) = decide ((k = 1 ∨ nk = 0 ∧ nx = 0) ∧ (k = 2 ∨ nb = 0) ∧ (k = 3 ∨ k = 4 ∨ no = 0) ∧ (k = 3 ∨ ca = 0) ∧ (k = 4 ∨ ne = 0 ∧ ri = 0) ∧ (k = 5 ∨ nm = 0))) := by
  refine decide_eq_decide.2 ?_
  unfold FieldsOk
  rw [hnk, hnb, hno, hne, hnm, hkk, hnx, hca, hri]
 rw [HD.out]
 rw [← hnk, ← hnb, ← hno, ← hne, ← hnm, ← hkk, ← hnx, ← hca, ← hri]
 clear HD hnk hnb hno hne hnm hkk hnx hca hri
 go_enter Tryz.func63, Tryz.ntmps63
 go_wp2_with fail
 all_goals (go_ret; refine ⟨?_, (Below.refl _ _).alloc (Nat.le_refl _) _⟩; congr 2; simp_all <;> (by_cases hh : nm = 0 <;> simp_all))
end Go.Proofs.YtgcbfggoddkhnaaGreatDoor
namespace Go.Proofs.YtgcbfggoddkhnaaGreatDoor
open Go.RowKit
def KrRel (w : World) (o : Ob) (k : Nat) (t i : Value) (wr : World) : Prop :=
 ∃ (m : Nat) (L : Int), m + k = o.kids.length ∧ i = .int .i64 (m : Int) ∧ t = .int .i64 L ∧ (∀ x ∈ o.kids.take m, KidOk o.next x) ∧ (o.kids.take m).Pairwise (fun a b => a.1 < b.1) ∧ 0 ≤ L ∧ (m = 0 → L = 0) ∧ (∀ x ∈ o.kids.take m, x.1 < L) ∧ (0 < m → ∃ x ∈ o.kids.take m, x.1 + 1 = L) ∧ Below w.heap.size w wr
theorem take_mem' {α : Type} {l : List α} {m : Nat} {y : α} (h : l[m]? = some y) {x : α} : x ∈ l.take (m + 1) ↔ x ∈ l.take m ∨ x = y := by
 rw [List.take_add_one, h]
 simp
set_option maxRecDepth 100000 in
set_option maxHeartbeats 2000000 in
theorem kidsRight_any {w : World} {F : Nat → Prop} {v : Value} {o : Ob} (h : ObjAt w F v o) (hw : WideO o) : Calls Tryz.prog 59 #[v] w (RetB w (.bool (decide (KidsOk o.next o.kids)))) := by
 obtain ⟨vk, ⟨vl, vb, vo, ve, vm, rfl, -, -, -, -, -⟩, ⟨A, c, rfl, -, -, hs⟩⟩ := h
 have hkd := hw.kids.2
 have hnx := hw.next
 have HW := Lib.hid hkd
 have HN : Hid (W64 o.next) := hnx
 clear hw hkd
 obtain ⟨cs, hcs⟩ : ∃ cs : Array Value, cs = #[.int .i64 o.kind, vl, .slice A o.kids.length c, .int .i64 o.next, vb, vo, .int .i64 o.cats, ve, .int .i64 o.ring, vm] := ⟨_, rfl⟩
 have hb0 : Below w.heap.size w (w.alloc (.cells cs 29)) := (Below.refl _ _).alloc (Nat.le_refl _) _
 have hx0 := BoxAt.new w cs 29
 have k2 : cs[2]? = some (.slice A o.kids.length c) := by rw [hcs]; rfl
 have k3 : cs[3]? = some (.int .i64 o.next) := by rw [hcs]; rfl
 have HB0 := Lib.hid hb0
 have HX0 := Lib.hid hx0
 have HK2 := Lib.hid k2
 have HK3 := Lib.hid k3
 have HS := Lib.hid hs
 have HC := Lib.hid hcs
 clear hs hb0 hx0 k2 k3 hcs
 by_cases h16 : 16 < o.kids.length
 · have HD : Hid (decide (KidsOk o.next o.kids) = false) := decide_eq_false fun h => by have := h.1; omega
   go_enter Tryz.func59, Tryz.ntmps59
   go_wp2_with fail
   go_ret
   exact ⟨by rw [HD.out] <;> rfl, by rw [← HC.out]; exact HB0.out⟩
 · have h16' : ¬ (16 : Int) < (o.kids.length : Int) := by omega
   go_enter Tryz.func59, Tryz.ntmps59
   go_wp2_with fail
   go_loopg [3, 13] o.kids.length (fun k t i wr => KrRel w o k t i wr ∧ BoxAt wr w.heap.size cs 29)
   case atStart => exact ⟨⟨0, 0, by simp, rfl, rfl, by simp, by simp, by omega, fun _ => rfl, by simp, fun h => by omega, by rw [← HC.out]; exact HB0.out⟩, by rw [← HC.out]; exact HX0.out⟩
   case round =>
    obtain ⟨⟨m, L, hmk, hi, ht, hok, hpw, hL0, hm0, hlt, hex, hb⟩, hbx⟩ := hrel
    subst hi ht
    have HOK := Lib.hid hok
    have HPW := Lib.hid hpw
    have HLT := Lib.hid hlt
    have HEX := Lib.hid hex
    have HM0 := Lib.hid hm0
    have HB := Lib.hid hb
    have HBX := Lib.hid hbx
    cases gk with
    | zero =>
     have hge : o.kids.length ≤ m := by omega
     have HD : Hid (decide (KidsOk o.next o.kids) = true) := by
       rw [List.take_of_length_le hge] at hok hpw
       exact decide_eq_true ⟨by omega, hok, hpw⟩
     clear hok hpw hlt hex hm0 hb hbx
     go_wp2_with fail
     go_ret
     exact ⟨by rw [HD.out] <;> rfl, HB.out⟩
    | succ j =>
     have hm : m < o.kids.length := by omega
     obtain ⟨x, hx⟩ : ∃ x, o.kids[m]? = some x := ⟨_, List.getElem?_eq_getElem hm⟩
     have hmem := List.mem_of_getElem? hx
     obtain ⟨e1, e2, e3⟩ := kidCells_at hx
     obtain ⟨b, of, rfl, -, hltb, hc⟩ := HS.out (by rw [kidCells_length]; omega)
     obtain ⟨n, kd, q⟩ := x
     have d1 := (hb.cell (p := ⟨b, of + m * 3, none⟩) hltb).trans (hc _ _ e1)
     have d2 := (hb.cell (p := ⟨b, of + (m * 3 + 1), none⟩) hltb).trans (hc _ _ e2)
     have d3 := (hb.cell (p := ⟨b, of + (m * 3 + 2), none⟩) hltb).trans (hc _ _ e3)
     rw [← Nat.add_assoc] at d2 d3
     have b2 := hbx.cell HK2.out
     have b3 := fun O => (hbx.alloc O).cell HK3.out
     have hn64 : W64 n := (HW.out _ hmem).1
     have hN := HN.out
     have n1 : -9223372036854775808 ≤ n := hn64.1
     have n2 : n ≤ 9223372036854775807 := hn64.2
     have n3 : o.next ≤ 9223372036854775807 := hN.2
     have H60 := Lib.hid (fun W => within_any q 1048576 W)
     have HMK := Lib.hid hmk
     have HX := Lib.hid hx
     have hszw : w.heap.size + 1 ≤ wr.heap.size := hbx.lt
     have hne : ¬ wr.heap.size = w.heap.size := by omega
     have hne2 : ¬ w.heap.size = wr.heap.size := by omega
     have hal : Hid (∀ O, Below (w.heap.size + 1) wr (wr.alloc O)) := fun O => (Below.refl _ _).alloc (by omega) _
     have NO : ∀ (p : ¬ KidOk o.next (n, kd, q)), decide (KidsOk o.next o.kids) = false := fun p => decide_eq_false fun h => p (h.2.1 _ hmem)
     clear hok hpw hlt hex hm0 hb hbx hc e1 e2 e3 hmk hN hn64
     by_cases t1 : n < L
     · have HD : Hid (decide (KidsOk o.next o.kids) = false) := decide_eq_false fun h => by
         by_cases hmz : m = 0
         · have := HM0.out hmz
           have := (h.2.1 _ hmem).1.1
           simp at this
           omega
         · obtain ⟨y, hy, hyL⟩ := HEX.out (by omega)
           obtain ⟨i, hi⟩ := List.mem_iff_getElem?.1 hy
           rw [List.getElem?_take] at hi
           split at hi
           · rename_i him
             obtain ⟨hil, e⟩ := List.getElem?_eq_some_iff.1 hi
             obtain ⟨hml, e'⟩ := List.getElem?_eq_some_iff.1 HX.out
             have := List.pairwise_iff_getElem.1 h.2.2 i m hil hml him
             rw [e, e'] at this
             simp at this
             omega
           · cases hi
       clear hmem hx NO
       go_wp2_with fail
       go_ret
       exact ⟨by rw [HD.out] <;> rfl, HB.out.trans ((hal.out _).mono (by omega))⟩
     · by_cases t2 : o.next ≤ n
       · have HD := Lib.hid (NO fun p => by have := p.1.2; simp at this; omega)
         clear hmem hx NO
         go_wp2_with fail
         go_ret
         exact ⟨by rw [HD.out] <;> rfl, HB.out.trans ((hal.out _).mono (by omega))⟩
       · by_cases t3 : kd < 1
         · have HD := Lib.hid (NO fun p => by have := p.2.1.1; simp at this; omega)
           clear hmem hx NO
           go_wp2_with fail
           go_ret
           exact ⟨by rw [HD.out] <;> rfl, HB.out.trans ((hal.out _).mono (by omega))⟩
         · by_cases t4 : 5 < kd
           · have HD := Lib.hid (NO fun p => by have := p.2.1.2; simp at this; omega)
             clear hmem hx NO
             go_wp2_with fail
             go_ret
             exact ⟨by rw [HD.out] <;> rfl, HB.out.trans ((hal.out _).mono (by omega))⟩
           · by_cases t5 : 0 ≤ q ∧ q ≤ 1048576
             · rw [decide_eq_true t5] at H60
               have HK : Hid (KidOk o.next (n, kd, q)) := ⟨⟨by simp; omega, by simp; omega⟩, ⟨by simp; omega, by simp; omega⟩, t5⟩
               have HL : Hid (∀ y ∈ o.kids.take m, y.1 < n) := fun y hy => by have := HLT.out y hy; omega
               clear hmem hx NO t5
               go_wp2_with (first | (go_at_call 60; refine (H60.out _).mono ?_; rintro e w' ⟨rfl, rfl⟩))
               go_roundg j
               case measure => omega
               case rel =>
                refine ⟨⟨m + 1, n + 1, by have := HMK.out; omega, by go_num, by go_num, fun y hy => ?_, ?_, by omega, fun h => by omega, fun y hy => ?_, fun _ => ?_, HB.out.trans ((hal.out _).mono (by omega))⟩, HBX.out.below (hal.out _) (by omega)⟩
                · rcases (take_mem' HX.out).1 hy with hy | rfl
                  · exact HOK.out y hy
                  · exact HK.out
                · rw [List.take_add_one, HX.out]
                  refine List.pairwise_append.2 ⟨HPW.out, List.pairwise_singleton _ _, fun a ha b hb => ?_⟩
                  simp at hb
                  subst hb
                  exact HL.out a ha
                · rcases (take_mem' HX.out).1 hy with hy | rfl
                  · have := HL.out y hy; omega
                  · simp; omega
                · exact ⟨_, (take_mem' HX.out).2 (.inr rfl), rfl⟩
             · rw [decide_eq_false t5] at H60
               have HD := Lib.hid (NO fun p => t5 p.2.2)
               clear hmem hx NO t5
               go_wp2_with (first | (go_at_call 60; refine (H60.out _).mono ?_; rintro e w' ⟨rfl, rfl⟩))
               go_ret
               exact ⟨by rw [HD.out] <;> rfl, HB.out.trans ((hal.out _).mono (by omega))⟩
end Go.Proofs.YtgcbfggoddkhnaaGreatDoor
namespace Go.Proofs.YtgcbfggoddkhnaaGreatDoor
open Go.RowKit
theorem quotas_snoc {l : List Kd} {m : Nat} {x : Kd} (h : l[m]? = some x) : quotas (l.take (m + 1)) = quotas (l.take m) + x.2.2 := by
 rw [List.take_add_one, h, quotas_append]
 simp [quotas]
def base0 (o : Ob) : Int := 16 + (o.bytes.length : Int) + 8 * (o.own.length : Int) + 16 * (o.entry.length : Int) + 24 * (o.maps.length : Int)
theorem uses_base (o : Ob) : uses o = base0 o + quotas o.kids := rfl
def UsRel (w : World) (o : Ob) (k : Nat) (t i : Value) (wr : World) : Prop :=
 ∃ m : Nat, m + k = o.kids.length ∧ i = .int .i64 (m : Int) ∧ t = .int .i64 (base0 o + quotas (o.kids.take m)) ∧ Below w.heap.size w wr
set_option maxRecDepth 100000 in
set_option maxHeartbeats 2000000 in
theorem uses_any {w : World} {F : Nat → Prop} {v : Value} {o : Ob} {n : Int} (h : ObjAt w F v o) (hw : WideO o) (hk : KidsOk n o.kids) : Calls Tryz.prog 16 #[v] w (RetB w (.int .i64 (uses o))) := by
 obtain ⟨vk, ⟨vl, vb, vo, ve, vm, rfl, -, ⟨Ab, cb, rfl, -⟩, ⟨Ao, co, rfl, -⟩, ⟨Ae, ce, rfl, -⟩, ⟨Am, cm, rfl, -⟩⟩, ⟨A, c, rfl, -, -, hs⟩⟩ := h
 have w1 := hw.bytes.1
 have w2 := hw.own.1
 have w3 := hw.entry.1
 have w4 := hw.maps.1
 have h16 := hk.1
 have HK := Lib.hid hk
 have HS := Lib.hid hs
 clear hw hk hs
 obtain ⟨z, hz⟩ : ∃ z, z = base0 o := ⟨_, rfl⟩
 have HZ := Lib.hid hz
 have hz0 : 16 ≤ z ∧ z ≤ 100000000 := by unfold base0 at hz; omega
 obtain ⟨hz1, hz2⟩ := hz0
 obtain ⟨nb, hnb⟩ : ∃ n, n = o.bytes.length := ⟨_, rfl⟩
 obtain ⟨no, hno⟩ : ∃ n, n = o.own.length := ⟨_, rfl⟩
 obtain ⟨ne, hne⟩ : ∃ n, n = o.entry.length := ⟨_, rfl⟩
 obtain ⟨nm, hnm⟩ : ∃ n, n = o.maps.length := ⟨_, rfl⟩
 have HE : Hid (16 + (nb : Int) + 8 * (no : Int) + 16 * (ne : Int) + 24 * (nm : Int) = z) := by unfold Hid; rw [hz, hnb, hno, hne, hnm]; rfl
 rw [← hnb, ← hno, ← hne, ← hnm]
 rw [← hnb] at w1
 rw [← hno] at w2
 rw [← hne] at w3
 rw [← hnm] at w4
 obtain ⟨cs, hcs⟩ : ∃ cs : Array Value, cs = #[.int .i64 o.kind, vl, .slice A o.kids.length c, .int .i64 o.next, .slice Ab nb cb, .slice Ao no co, .int .i64 o.cats, .slice Ae ne ce, .int .i64 o.ring, .slice Am nm cm] := ⟨_, rfl⟩
 have HB0 : Hid (Below w.heap.size w (w.alloc (.cells cs 29))) := (Below.refl _ _).alloc (Nat.le_refl _) _
 have HC := Lib.hid hcs
 clear hcs hz hnb hno hne hnm
 go_enter Tryz.func16, Tryz.ntmps16
 go_wp2_with fail
 go_loopg [3, 28] o.kids.length (fun k t i wr => UsRel w o k t i wr)
 case atStart => exact ⟨0, by simp, rfl, by rw [← HZ.out, ← HE.out]; simp [quotas], by rw [← HC.out]; exact HB0.out⟩
 case round =>
  obtain ⟨m, hmk, hi, ht, hb⟩ := hrel
  subst hi ht
  have HB := Lib.hid hb
  have hq := quotas_take HK.out m
  have HZ2 := HZ.out
  rw [← HZ2]
  cases gk with
  | zero =>
   have hge : o.kids.length ≤ m := by omega
   have HD : Hid (z + quotas (o.kids.take m) = uses o) := by unfold Hid; rw [uses_base, List.take_of_length_le hge, HZ.out]
   clear hb hq HZ2
   go_wp2_with fail
   go_ret
   exact ⟨by rw [HD.out] <;> rfl, HB.out⟩
  | succ j =>
   have hm : m < o.kids.length := by omega
   obtain ⟨x, hx⟩ : ∃ x, o.kids[m]? = some x := ⟨_, List.getElem?_eq_getElem hm⟩
   obtain ⟨e1, e2, e3⟩ := kidCells_at hx
   obtain ⟨b, of, rfl, -, hltb, hc⟩ := HS.out (by rw [kidCells_length]; omega)
   have HX := Lib.hid (quotas_snoc hx)
   have hq2 := quotas_take HK.out (m + 1)
   rw [quotas_snoc hx] at hq2
   obtain ⟨n, kd, q⟩ := x
   have d1 := (hb.cell (p := ⟨b, of + m * 3, none⟩) hltb).trans (hc _ _ e1)
   have d2 := (hb.cell (p := ⟨b, of + (m * 3 + 1), none⟩) hltb).trans (hc _ _ e2)
   have d3 := (hb.cell (p := ⟨b, of + (m * 3 + 2), none⟩) hltb).trans (hc _ _ e3)
   rw [← Nat.add_assoc] at d2 d3
   obtain ⟨s, hs⟩ : ∃ s, s = quotas (o.kids.take m) := ⟨_, rfl⟩
   have HSS := Lib.hid hs
   rw [← hs] at hq hq2
   rw [← hs]
   simp only at hq2
   obtain ⟨q1, q2⟩ := hq
   obtain ⟨q3, q4⟩ := hq2
   have HMK := Lib.hid hmk
   have hszw := hb.size
   clear hb hs hx e1 e2 e3 hc hmk HZ2
   go_wp2_with fail
   go_roundg j
   case measure => omega
   case rel =>
    refine ⟨m + 1, by have := HMK.out; omega, by go_num, ?_, HB.out.trans ((Below.refl _ _).alloc (by have := HB.out.size; omega) _)⟩
    rw [HX.out, ← HSS.out, ← HZ.out]
    go_num
theorem take_mem2 {α : Type} {l : List α} {m : Nat} {y : α} (h : l[m]? = some y) {x : α} : x ∈ l.take (m + 1) ↔ x ∈ l.take m ∨ x = y := by
 rw [List.take_add_one, h]
 simp
def MrRel (w : World) (ms : List Mp) (k : Nat) (t i : Value) (wr : World) : Prop :=
 ∃ (m : Nat) (L : Int), m + k = ms.length ∧ i = .int .i64 (m : Int) ∧ t = .int .i64 L ∧ (∀ x ∈ ms.take m, MapOk x) ∧ (ms.take m).Pairwise (fun a b => a.1 < b.1) ∧ 0 ≤ L ∧ (m = 0 → L = 0) ∧ (∀ x ∈ ms.take m, x.1 < L) ∧ (0 < m → ∃ x ∈ ms.take m, x.1 + 1 = L) ∧ Below w.heap.size w wr
set_option maxRecDepth 100000 in
set_option maxHeartbeats 2000000 in
theorem mapsRight_any {w : World} {F : Nat → Prop} {v : Value} {ms : List Mp} (h : MapsV w F v ms) (hw : ∀ m ∈ ms, W64 m.1) : Calls Tryz.prog 62 #[v] w (RetB w (.bool (decide (MapsOk ms)))) := by
 have HV := Lib.hid h
 obtain ⟨A, c, rfl, -, -, hs⟩ := h
 have HW := Lib.hid hw
 have HS := Lib.hid hs
 clear hw hs
 by_cases h16 : 4 < ms.length
 · have HD : Hid (decide (MapsOk ms) = false) := decide_eq_false fun h => by have := h.1; omega
   go_enter Tryz.func62, Tryz.ntmps62
   go_wp2_with fail
   go_ret
   exact ⟨by rw [HD.out] <;> rfl, Below.refl _ _⟩
 · have h16' : ¬ (4 : Int) < (ms.length : Int) := by omega
   go_enter Tryz.func62, Tryz.ntmps62
   go_wp2_with fail
   go_loopg [3, 11] ms.length (fun k t i wr => MrRel w ms k t i wr)
   case atStart => exact ⟨0, 0, by simp, rfl, rfl, by simp, by simp, by omega, fun _ => rfl, by simp, fun h => by omega, Below.refl _ _⟩
   case round =>
    obtain ⟨m, L, hmk, hi, ht, hok, hpw, hL0, hm0, hlt, hex, hb⟩ := hrel
    subst hi ht
    have HOK := Lib.hid hok
    have HPW := Lib.hid hpw
    have HLT := Lib.hid hlt
    have HEX := Lib.hid hex
    have HM0 := Lib.hid hm0
    have HB := Lib.hid hb
    cases gk with
    | zero =>
     have hge : ms.length ≤ m := by omega
     have HD : Hid (decide (MapsOk ms) = true) := by
       rw [List.take_of_length_le hge] at hok hpw
       exact decide_eq_true ⟨by omega, hok, hpw⟩
     clear hok hpw hlt hex hm0 hb
     go_wp2_with fail
     go_ret
     exact ⟨by rw [HD.out] <;> rfl, HB.out⟩
    | succ j =>
     have hm : m < ms.length := by omega
     obtain ⟨x, hx⟩ : ∃ x, ms[m]? = some x := ⟨_, List.getElem?_eq_getElem hm⟩
     have hmem := List.mem_of_getElem? hx
     obtain ⟨b, of, rfl, -, hltb, hc⟩ := HS.out (by omega)
     obtain ⟨c1, ⟨sv, c2, hsv⟩, c3⟩ := hc m x hx
     obtain ⟨As, cs, rfl, -, -, hsl⟩ := hsv
     obtain ⟨n, sg, wf⟩ := x
     have d1 := (hb.cell (p := ⟨b, of + m * 3, none⟩) hltb).trans c1
     have d2 := (hb.cell (p := ⟨b, of + m * 3 + 1, none⟩) hltb).trans c2
     have d3 := (hb.cell (p := ⟨b, of + m * 3 + 2, none⟩) hltb).trans c3
     simp only at d1 d2 d3 hsl
     have hn64 : W64 n := HW.out _ hmem
     have n1 : -9223372036854775808 ≤ n := hn64.1
     have n2 : n ≤ 9223372036854775807 := hn64.2
     have hseg := ((hsl.zs.below hb).more hb.size)
     have hal : Hid (∀ O, Below wr.heap.size wr (wr.alloc O)) := fun O => (Below.refl _ _).alloc (Nat.le_refl _) _
     have H106 : Hid (∀ O, Calls Tryz.prog 106 #[.slice As sg.length cs] (wr.alloc O) fun e w' => e = .returned (.bool (decide (Pa.PathOk sg))) ∧ wr.alloc O = w') := fun O => Pa.right_any ((hseg.below (hal.out O)).more (hal.out O).size)
     have HMK := Lib.hid hmk
     have HX := Lib.hid hx
     have hszw := hb.size
     have NO : ∀ (p : ¬ MapOk (n, sg, wf)), decide (MapsOk ms) = false := fun p => decide_eq_false fun h => p (h.2.1 _ hmem)
     clear hok hpw hlt hex hm0 hb hc c1 c2 c3 hmk hn64 hsl hseg
     by_cases t1 : n < L
     · have HD : Hid (decide (MapsOk ms) = false) := decide_eq_false fun h => by
         by_cases hmz : m = 0
         · have := HM0.out hmz
           have := (h.2.1 _ hmem).1.1
           simp at this
           omega
         · obtain ⟨y, hy, hyL⟩ := HEX.out (by omega)
           obtain ⟨i, hi⟩ := List.mem_iff_getElem?.1 hy
           rw [List.getElem?_take] at hi
           split at hi
           · rename_i him
             obtain ⟨hil, e⟩ := List.getElem?_eq_some_iff.1 hi
             obtain ⟨hml, e'⟩ := List.getElem?_eq_some_iff.1 HX.out
             have := List.pairwise_iff_getElem.1 h.2.2 i m hil hml him
             rw [e, e'] at this
             simp at this
             omega
           · cases hi
       clear hmem hx NO
       go_wp2_with fail
       go_ret
       exact ⟨by rw [HD.out] <;> rfl, HB.out.trans ((hal.out _).mono (by omega))⟩
     · by_cases t2 : 1048576 < n
       · have HD := Lib.hid (NO fun p => by have := p.1.2; simp at this; omega)
         clear hmem hx NO
         go_wp2_with fail
         go_ret
         exact ⟨by rw [HD.out] <;> rfl, HB.out.trans ((hal.out _).mono (by omega))⟩
       · by_cases t5 : Pa.PathOk sg
         · rw [decide_eq_true t5] at H106
           have HK : Hid (MapOk (n, sg, wf)) := ⟨⟨by simp; omega, by simp; omega⟩, t5⟩
           have HL : Hid (∀ y ∈ ms.take m, y.1 < n) := fun y hy => by have := HLT.out y hy; omega
           clear hmem hx NO t5
           go_wp2_with (first | (go_at_call 106; refine (H106.out _).mono ?_; rintro e w' ⟨rfl, rfl⟩))
           go_roundg j
           case measure => omega
           case rel =>
             refine ⟨m + 1, n + 1, by have := HMK.out; omega, by go_num, by go_num, fun y hy => ?_, ?_, by omega, fun h => by omega, fun y hy => ?_, fun _ => ?_, HB.out.trans ((hal.out _).mono (by omega))⟩
             · rcases (take_mem2 HX.out).1 hy with hy | rfl
               · exact HOK.out y hy
               · exact HK.out
             · rw [List.take_add_one, HX.out]
               refine List.pairwise_append.2 ⟨HPW.out, List.pairwise_singleton _ _, fun a ha b hb => ?_⟩
               simp at hb
               subst hb
               exact HL.out a ha
             · rcases (take_mem2 HX.out).1 hy with hy | rfl
               · have := HL.out y hy; omega
               · simp; omega
             · exact ⟨_, (take_mem2 HX.out).2 (.inr rfl), rfl⟩
         · rw [decide_eq_false t5] at H106
           have HD := Lib.hid (NO fun p => t5 p.2)
           clear hmem hx NO t5
           go_wp2_with (first | (go_at_call 106; refine (H106.out _).mono ?_; rintro e w' ⟨rfl, rfl⟩))
           go_ret
           exact ⟨by rw [HD.out] <;> rfl, HB.out.trans ((hal.out _).mono (by omega))⟩
end Go.Proofs.YtgcbfggoddkhnaaGreatDoor
namespace Go.Proofs.YtgcbfggoddkhnaaGreatDoor
open Go.RowKit Go.Shelf
theorem strCells_get {l : List (List UInt8)} {j : Nat} {u : Value} (h : (strCellsOf l)[j]? = some u) : ∃ x, l[j]? = some x ∧ u = .string (str x) := by
 simp [strCellsOf] at h
 obtain ⟨x, h1, h2⟩ := h
 exact ⟨x, h1, h2.symm⟩
theorem strCells_one (l : List (List UInt8)) : ∀ u ∈ strCellsOf l, u.oneCell' = true := by
 intro u hu
 simp [strCellsOf] at hu
 obtain ⟨x, _, rfl⟩ := hu
 rfl
theorem Strs.cells {w : World} {B : Nat} {a : Addr} {l : List (List UInt8)} (h : Strs w B (some a) l) : ∀ j u, (strCellsOf l)[j]? = some u → w.cell? (a.add j) = some u := by
 intro j u hu
 obtain ⟨x, hk, rfl⟩ := strCells_get hu
 have hp : 0 < l.length := by
  have := (List.getElem?_eq_some_iff.1 hk).1
  omega
 obtain ⟨b, o, hA, _, hc⟩ := h hp
 injection hA with hA
 subst hA
 rw [Go.WideShapes.add_plain]
 exact hc j x hk
def RetRowS (w : World) (l : List (List UInt8)) (e : Ending) (w' : World) : Prop := ∃ v, e = .returned v ∧ StrRow w' w.heap.size v l ∧ Below w.heap.size w w'
end Go.Proofs.YtgcbfggoddkhnaaGreatDoor
namespace Go.Proofs
open Go.Shelf
def Tryz.sortL_ren : Go.Shelf.Ren := ⟨fun | 6 => 145 | 15 => 124 | 14 => 178 | 28 => 169 | 29 => 170 | 20 => 199 | 21 => 200 | 22 => 201 | 23 => 202 | 24 => 203 | 25 => 204 | 26 => 205 | 27 => 206 | 46 => 219 | 47 => 192 | 48 => 193 | 49 => 220 | 50 => 221 | 57 => 232 | n => n, fun | 22 => 26 | 24 => 9 | 25 => 143 | 3 => 3 | 39 => 78 | 0 => 0 | 53 => 210 | 55 => 212 | 4 => 4 | 46 => 203 | 45 => 202 | 50 => 207 | 5 => 5 | 9 => 9 | 66 => 230 | 70 => 234 | 76 => 256 | 77 => 257 | n => n, fun | n => n⟩
theorem Tryz.sortL : Go.Proofs.SlLaysF.n6 Tryz.prog Tryz.sortL_ren := {
 mixed := by kernel_rfl
 f6 := ⟨Tryz.f145.name, by decide, Tryz.func145.trans (congrArg some (by kernel_rfl))⟩
 f14 := ⟨Tryz.f178.name, by decide, Tryz.func178.trans (congrArg some (by kernel_rfl))⟩
 f15 := Tryz.func124.trans (congrArg some (by kernel_rfl))
 f20 := ⟨Tryz.f199.name, by decide, Tryz.func199.trans (congrArg some (by kernel_rfl))⟩
 f21 := ⟨Tryz.f200.name, by decide, Tryz.func200.trans (congrArg some (by kernel_rfl))⟩
 f22 := ⟨Tryz.f201.name, by decide, Tryz.func201.trans (congrArg some (by kernel_rfl))⟩
 f23 := ⟨Tryz.f202.name, by decide, Tryz.func202.trans (congrArg some (by kernel_rfl))⟩
 f24 := ⟨Tryz.f203.name, by decide, Tryz.func203.trans (congrArg some (by kernel_rfl))⟩
 f25 := ⟨Tryz.f204.name, by decide, Tryz.func204.trans (congrArg some (by kernel_rfl))⟩
 f26 := ⟨Tryz.f205.name, by decide, Tryz.func205.trans (congrArg some (by kernel_rfl))⟩
 f27 := ⟨Tryz.f206.name, by decide, Tryz.func206.trans (congrArg some (by kernel_rfl))⟩
 f28 := Tryz.func169.trans (congrArg some (by kernel_rfl))
 f29 := Tryz.func170.trans (congrArg some (by kernel_rfl))
 f46 := ⟨Tryz.f219.name, by decide, Tryz.func219.trans (congrArg some (by kernel_rfl))⟩
 f47 := Tryz.func192.trans (congrArg some (by kernel_rfl))
 f48 := Tryz.func193.trans (congrArg some (by kernel_rfl))
 f49 := ⟨Tryz.f220.name, by decide, Tryz.func220.trans (congrArg some (by kernel_rfl))⟩
 f50 := ⟨Tryz.f221.name, by decide, Tryz.func221.trans (congrArg some (by kernel_rfl))⟩
 f57 := ⟨Tryz.f232.name, by decide, Tryz.func232.trans (congrArg some (by kernel_rfl))⟩
 t0 := Tryz.underlying0
 a0 := Tryz.isAgg0
 z0 := Tryz.sizeOf0
 v0 := Tryz.zeroValue0
 t3 := Tryz.underlying3
 a3 := Tryz.isAgg3
 z3 := Tryz.sizeOf3
 v3 := Tryz.zeroValue3
 t4 := Tryz.underlying4
 a4 := Tryz.isAgg4
 z4 := Tryz.sizeOf4
 v4 := Tryz.zeroValue4
 t5 := Tryz.underlying5
 a5 := Tryz.isAgg5
 z5 := Tryz.sizeOf5
 v5 := Tryz.zeroValue5
 t9 := Tryz.underlying9
 a9 := Tryz.isAgg9
 z9 := Tryz.sizeOf9
 v9 := Tryz.zeroValue9
 t22 := Tryz.underlying26
 a22 := Tryz.isAgg26
 z22 := Tryz.sizeOf26
 v22 := Tryz.zeroValue26
 a24 := Tryz.isAgg9
 z24 := Tryz.sizeOf9
 t25 := Tryz.underlying143
 a25 := Tryz.isAgg143
 z25 := Tryz.sizeOf143
 v25 := Tryz.zeroValue143
 t39 := Tryz.underlying78
 a39 := Tryz.isAgg78
 z39 := Tryz.sizeOf78
 v39 := Tryz.zeroValue78
 t45 := Tryz.underlying202
 a45 := Tryz.isAgg202
 z45 := Tryz.sizeOf202
 v45 := Tryz.zeroValue202
 t46 := Tryz.underlying203
 a46 := Tryz.isAgg203
 z46 := Tryz.sizeOf203
 v46 := Tryz.zeroValue203
 t50 := Tryz.underlying207
 a50 := Tryz.isAgg207
 z50 := Tryz.sizeOf207
 v50 := Tryz.zeroValue207
 t53 := Tryz.underlying210
 a53 := Tryz.isAgg210
 z53 := Tryz.sizeOf210
 v53 := Tryz.zeroValue210
 t55 := Tryz.underlying212
 a55 := Tryz.isAgg212
 z55 := Tryz.sizeOf212
 v55 := Tryz.zeroValue212
 t66 := Tryz.underlying230
 a66 := Tryz.isAgg230
 z66 := Tryz.sizeOf230
 v66 := Tryz.zeroValue230
 t70 := Tryz.underlying234
 a70 := Tryz.isAgg234
 z70 := Tryz.sizeOf234
 v70 := Tryz.zeroValue234
 t76 := Tryz.underlying256
 a76 := Tryz.isAgg256
 z76 := Tryz.sizeOf256
 v76 := Tryz.zeroValue256
 t77 := Tryz.underlying257
 a77 := Tryz.isAgg257
 z77 := Tryz.sizeOf257
 v77 := Tryz.zeroValue257 }
end Go.Proofs
namespace Go.Proofs.YtgcbfggoddkhnaaGreatDoor
open Go.RowKit Go.Shelf
structure CatT where
 val : List UInt8
 ok : (catOf val).isSome = true
theorem cat_zero : catOf [47, 48] = some ([], 0) := catOf_iff.2 ⟨by decide, by
 have h : Lib.decDigits 0 = [48] := Lib.decDigits_one (by omega)
 simp [catText, pathText, joinDot, h]⟩
instance : Inhabited CatT := ⟨⟨[47, 48], by rw [cat_zero]; rfl⟩⟩
def encC (x : CatT) : Value := .string (str x.val)
def cfC (x y : CatT) : Int := cmpC x.val y.val
theorem lt_iff {x y : CatT} : ltOf cfC x y = decide (cmpC x.1 y.1 < 0) := rfl
theorem catT_ext {x y : CatT} (h : x.val = y.val) : x = y := by
 cases x; cases y; cases h; rfl
theorem swo_cats : Sort.SWO (ltOf cfC) where
 irrefl x := by
  rw [lt_iff, tot_cmpC.refl]
  rfl
 trans x y z h1 h2 := by
  rw [lt_iff] at *
  simp only [decide_eq_true_eq] at *
  have o1 := tot_cmpC.one x.1 y.1
  have o2 := tot_cmpC.one y.1 z.1
  have := tot_cmpC.lt_trans (x := x.1) (y := y.1) (z := z.1) (by omega) (by omega)
  omega
 ntrans x y z h1 h2 := by
  rw [lt_iff] at *
  simp only [decide_eq_false_iff_not] at *
  have n1 := tot_cmpC.neg x.1 y.1
  have n2 := tot_cmpC.neg y.1 z.1
  have n3 := tot_cmpC.neg x.1 z.1
  have := tot_cmpC.trans z.1 y.1 x.1 (by omega) (by omega)
  omega
theorem parts_cats (x y : CatT) (h1 : ltOf cfC x y = false) (h2 : ltOf cfC y x = false) : x = y := by
 rw [lt_iff] at *
 simp only [decide_eq_false_iff_not] at *
 have n1 := tot_cmpC.neg x.1 y.1
 exact catT_ext ((tot_cmpC.eq x.1 y.1).1 (by omega))
theorem put_size {α : Type} [Inhabited α] {enc : α → Value} {w : World} {n g off : Nat} {d : Array α} : (Sort.putRow enc (Sort.ahead w n) g off d).heap.size = w.heap.size := by
 simp [Sort.putRow, Sort.mapBlock, Sort.ahead]
theorem below_put {α : Type} [Inhabited α] (enc : α → Value) (w : World) (g off n B : Nat) (d : Array α) (os : Array Obj) (hB : B ≤ g) (hs : B ≤ w.heap.size) :
   Below B w (Sort.grow (Sort.putRow enc (Sort.ahead w n) g off d) os) := by
 refine ⟨rfl, rfl, rfl, ?_, fun k hk => ?_⟩
 · rw [Sort.size_grow, put_size]
   omega
 · rw [Sort.heap_grow_old _ _ (by rw [put_size]; omega)]
   have : g ≠ k := by omega
   simp [Sort.putRow, Sort.mapBlock, Sort.ahead, Array.getElem?_modify, this]
theorem holds_grow {α : Type} [Inhabited α] {enc : α → Value} {w : World} {g off : Nat} {d : Array α} (h : Sort.Holds enc w g off d) (hg : g < w.heap.size) (os : Array Obj) : Sort.Holds enc (Sort.grow w os) g off d :=
 Sort.holds_grow enc w os g off d hg h
theorem grow_of_below {w w' : World} (hb : Below w.heap.size w w') (hd : w.drawn ≤ w'.drawn) : ∃ q os', w' = Sort.grow (w.drewN q) os' := by
 refine ⟨w'.drawn - w.drawn, w'.heap.extract w.heap.size w'.heap.size, ?_⟩
 have hh : w'.heap = w.heap ++ w'.heap.extract w.heap.size w'.heap.size := by
  apply Array.ext_getElem?
  intro i
  by_cases hi : i < w.heap.size
  · rw [Array.getElem?_append_left hi]
    exact hb.block i hi
  · rw [Array.getElem?_append_right (by omega)]
    have hsz := hb.size
    by_cases hi2 : i < w'.heap.size
    · rw [Array.getElem?_eq_getElem hi2, Array.getElem?_eq_getElem (by simp; omega)]
      simp
      congr 1
      omega
    · rw [Array.getElem?_eq_none (by omega), Array.getElem?_eq_none (by simp; omega)]
 have h1 := hb.os
 have h2 := hb.tape
 have h3 := hb.output
 obtain ⟨_⟩ := w
 obtain ⟨_⟩ := w'
 simp only [Sort.grow, World.drewN] at *
 subst h1 h2 h3
 congr 1
 omega
theorem cmp_lays {w : World} (he : Env w) (g off size : Nat) (hg : 8 ≤ g) : CmpLays1 Tryz.prog 103 #[] encC cfC g off size w := by
 intro m os dk _ x y
 have hE : Env (sortWorld encC w g off m dk os) := he.below (below_put encC w g off m 8 dk os hg he.1) (Nat.le_refl _)
 refine Calls.mono (show Calls Tryz.prog 103 (#[encC x, encC y] ++ #[]) _ _ from compare_more hE (cat_len x.2) (cat_len y.2)) ?_
 rintro e w' ⟨⟨rfl, hb⟩, hd⟩
 obtain ⟨q, os', h⟩ := grow_of_below hb (hd ⟨x.2, y.2⟩)
 exact ⟨rfl, q, os', h⟩
theorem cats_of : ∀ {R : List (List UInt8)}, (∀ x ∈ R, (catOf x).isSome = true) → ∃ d : List CatT, d.map CatT.val = R
 | [], _ => ⟨[], rfl⟩
 | x :: r, h => by
  obtain ⟨d, hd⟩ := cats_of (R := r) fun y hy => h y (List.mem_cons_of_mem _ hy)
  exact ⟨⟨x, h x (by simp)⟩ :: d, by rw [List.map_cons, hd]⟩
theorem holds_row {w : World} {base g cap : Nat} {R : List (List UInt8)} (h : StrRow w base (.slice (some ⟨g, 0, none⟩) R.length cap) R) (hc : ∀ x ∈ R, (catOf x).isSome = true) :
   ∃ d : Array CatT, d.toList.map CatT.val = R ∧ Sort.Holds encC w g 0 d := by
 obtain ⟨d, hd⟩ := cats_of hc
 refine ⟨d.toArray, hd, fun j hj => ?_⟩
 have hj' : j < d.length := by simpa using hj
 have hl : d.length = R.length := by rw [← hd]; simp
 have h0 : w.ownsRow base 9 1 (.slice (some ⟨g, 0, none⟩) R.length cap) R.length (strCellsOf R) := h
 refine ⟨?_, ?_⟩
 · rw [Nat.zero_add, h0.cellAt j (by omega)]
   unfold strCellsOf
   rw [← hd]
   simp [hj', encC]
 · rw [Nat.zero_add]
   exact h0.frozenAt j
theorem holds_cats {w : World} {g off : Nat} {d : Array CatT} (h : Sort.Holds encC w g off d) : Sort.Holds encStr w g off (d.toList.map CatT.val).toArray := fun j hj => by
 have hj' : j < d.size := by simpa using hj
 have := h j hj'
 rw [getElem!_pos d j hj'] at this
 rw [getElem!_pos _ j hj]
 simpa [encC, encStr, str] using this
theorem holds_strs {w : World} {g off k : Nat} {l : List (List UInt8)} {x : List UInt8} (h : Sort.Holds encStr w g off l.toArray) (hk : l[k]? = some x) : w.cell? ⟨g, off + k, none⟩ = some (.string (str x)) := by
 obtain ⟨h1, h2⟩ := List.getElem?_eq_some_iff.1 hk
 have := (h k (by simpa using h1)).1
 rw [getElem!_pos l.toArray k (by simpa using h1)] at this
 rw [this]
 simp [h2, encStr, str]
end Go.Proofs.YtgcbfggoddkhnaaGreatDoor
namespace Go.Proofs.YtgcbfggoddkhnaaGreatDoor
open Go.RowKit Go.Shelf
def RetSort (w : World) (l : List (List UInt8)) (e : Ending) (w' : World) : Prop :=
 Below w.heap.size w w' ∧ ∃ A c R, e = .returned (.slice A R.length c) ∧ (A = none → c = 0) ∧ Strs w' w'.heap.size A R ∧ Rises cmpC R ∧ ∀ x, x ∈ R ↔ x ∈ l ∧ (catOf x).isSome = true
def Sorted (w : World) (base g cap : Nat) (R : List (List UInt8)) (e : Ending) (w' : World) : Prop :=
 e = .returned (.tuple #[]) ∧ Below base w w' ∧ ∃ zs : List (List UInt8), zs.length = R.length ∧ RisesW cmpC zs ∧ (∀ x, x ∈ zs ↔ x ∈ R) ∧ Sort.Holds encStr w' g 0 zs.toArray ∧ g < w'.heap.size ∧ R.length ≤ cap
theorem sortFunc_any {w : World} {base g cap : Nat} {R : List (List UInt8)} (he : Env w) (hb8 : 8 ≤ base) (h : StrRow w base (.slice (some ⟨g, 0, none⟩) R.length cap) R) (hc : ∀ x ∈ R, (catOf x).isSome = true) (hn : R.length ≤ 100000000) :
   Calls Tryz.prog 145 #[.slice (some ⟨g, 0, none⟩) R.length cap, .func (.func 103) #[] #[]] w (Sorted w base g cap R) := by
 obtain ⟨d, hd, hH⟩ := holds_row h hc
 have hlt := World.ownsRow.lt h g rfl
 have hsz : d.size = R.length := by rw [← hd]; simp
 have eg : ∀ args w, (callFunc 103 args).run Tryz.prog w = .ok (.enter 103 args) w := enters_of Tryz.func103 (by kernel_rfl) rfl
 have hS := Any.slices_SortFunc_total Tryz.sortL encC (fun _ => rfl) cfC swo_cats 103 #[] g 0 cap d w eg (cmp_lays he g 0 d.size (by omega)) hH hlt.2 (by omega) parts_cats
 rw [hsz] at hS
 refine Calls.mono (show Calls Tryz.prog 145 _ _ _ from hS) ?_
 rintro e w' ⟨rfl, n, os, rfl⟩
 have hcap : R.length ≤ cap := by
   have h0 : w.ownsRow base 9 1 (.slice (some ⟨g, 0, none⟩) R.length cap) R.length (strCellsOf R) := h
   rcases h0.2 with ⟨hx, _⟩ | ⟨g', cap', cur, hx, _, _, hle, _⟩
   · cases hx
   · injection hx with _ _ hx
     omega
 refine ⟨rfl, below_put encC w g 0 n base _ os hlt.1 (Nat.le_trans hlt.1 (Nat.le_of_lt hlt.2)), (d.toList.mergeSort fun x y => !(ltOf cfC) y x).map CatT.val, ?_, ?_, ?_, ?_, ?_, hcap⟩
 · simp [hsz]
 · unfold RisesW
   rw [List.pairwise_map]
   have hp := List.pairwise_mergeSort (le := fun x y => !(ltOf cfC) y x) (fun a b c h1 h2 => ?_) (fun a b => ?_) d.toList
   · refine hp.imp fun {x y} hxy => ?_
     rw [lt_iff] at hxy
     have := tot_cmpC.neg x.1 y.1
     simp at hxy
     omega
   · rw [lt_iff] at *
     simp at *
     have n1 := tot_cmpC.neg a.1 b.1
     have n2 := tot_cmpC.neg b.1 c.1
     have n3 := tot_cmpC.neg a.1 c.1
     have := tot_cmpC.trans a.1 b.1 c.1 (by omega) (by omega)
     omega
   · rw [lt_iff, lt_iff]
     have n1 := tot_cmpC.neg a.1 b.1
     simp
     omega
 · intro x
   rw [← hd]
   simp [List.mem_mergeSort]
 · refine holds_cats (d := (d.toList.mergeSort fun x y => !(ltOf cfC) y x).toArray) ?_
   refine holds_grow (Sort.holds_putRow encC (Sort.ahead w n) g 0 d _ (fun j hj => hH j hj) (by simp)) ?_ os
   rw [put_size]
   exact hlt.2
 · have : g < (Sort.putRow encC (Sort.ahead w n) g 0 (d.toList.mergeSort fun x y => !(ltOf cfC) y x).toArray).heap.size := by rw [put_size]; exact hlt.2
   simp only [sortWorld, Sort.grow, Array.size_append]
   omega
theorem compact_any {w : World} {g cap B : Nat} {zs : List (List UInt8)} (hH : Sort.Holds encStr w g 0 zs.toArray) (hg : g < w.heap.size) (hB : B ≤ g) (hn : zs.length ≤ 100000000) (hcap : zs.length ≤ cap) (hr : RisesW cmpC zs) :
  Calls Tryz.prog 146 #[.slice (some ⟨g, 0, none⟩) zs.length cap] w fun e w' => Below B w w' ∧ ∃ R : List (List UInt8), e = .returned (.slice (some ⟨g, 0, none⟩) R.length cap) ∧ Strs w' w'.heap.size (some ⟨g, 0, none⟩) R ∧ Rises cmpC R ∧ ∀ x, x ∈ R ↔ x ∈ zs := by
 refine (Tryz.slices_Compact_string g 0 cap zs w hH (by omega) hcap).mono ?_
 rintro e w' ⟨rfl, q, rfl⟩
 obtain ⟨h1, h2⟩ := rises_compact tot_cmpC hr
 have hb := below_put encStr w g 0 q B (Lib.compact zs ++ List.replicate (zs.length - (Lib.compact zs).length) []).toArray #[] hB (by omega)
 rw [Sort.grow_empty] at hb
 refine ⟨hb, Lib.compact zs, rfl, fun _ => ⟨g, 0, rfl, by rw [put_size]; exact hg, fun k x hk => ?_⟩, h1, h2⟩
 have hlen : (Lib.compact zs).length ≤ zs.length := by
  unfold Lib.compact Lib.compactUpTo
  rw [List.length_map]
  exact Nat.le_trans (List.length_filter_le _ _) (by simp)
 refine holds_strs (Sort.holds_putRow encStr (Sort.ahead w q) g 0 zs.toArray _ (fun j hj => hH j hj) (by simp; omega)) ?_
 rw [List.getElem?_append_left (List.getElem?_eq_some_iff.1 hk).1]
 exact hk
def SortRel (w : World) (l : List (List UInt8)) (k : Nat) (v i : Value) (wr : World) : Prop :=
 ∃ m R, m + k = l.length ∧ i = .int .i64 (m : Int) ∧ StrRow wr w.heap.size v R ∧ R.length ≤ m ∧ (∀ x, x ∈ R ↔ x ∈ l.take m ∧ (catOf x).isSome = true) ∧ Below w.heap.size w wr
theorem take_mem {l : List (List UInt8)} {m : Nat} {y : List UInt8} (h : l[m]? = some y) (x : List UInt8) : x ∈ l.take (m + 1) ↔ x ∈ l.take m ∨ x = y := by
 rw [List.take_add_one, h]
 simp
set_option maxRecDepth 100000 in
set_option maxHeartbeats 2000000 in
theorem sort_any {w : World} {A : Option Addr} {c : Nat} {l : List (List UInt8)} (he : Env w) (hl : Strs w w.heap.size A l) (hx : ∀ x ∈ l, x.length ≤ 140737488351232) (hn : l.length ≤ 100000000) :
  Calls Tryz.prog 105 #[.slice A l.length c] w (RetSort w l) := by
 have HE := Lib.hid he
 have HL := Lib.hid hl
 have HX := Lib.hid hx
 clear he hl hx
 go_enter Tryz.func105, Tryz.ntmps105
 go_wp2_with fail
 go_loopg [3, 8] l.length (fun k v i wr => SortRel w l k v i wr)
 case atStart => exact ⟨0, [], by simp, rfl, World.ownsRow_nil _ _ _ _, by simp, by simp, Below.refl _ _⟩
 case round =>
  obtain ⟨m, R, hmk, hi, hrow, hRm, hmem, hb⟩ := hrel
  subst hi
  have HR := Lib.hid hrow
  have HB := Lib.hid hb
  have HM := Lib.hid hmem
  have EW := Lib.hid (HE.out.on hb)
  have hsz := hb.size
  cases gk with
  | zero =>
   have hge : l.length ≤ m := by omega
   have HM2 : Hid (∀ x, x ∈ R ↔ x ∈ l ∧ (catOf x).isSome = true) := by
     have := hmem
     rwa [List.take_of_length_le hge] at this
   have h0 : wr.ownsRow w.heap.size 9 1 _ R.length (strCellsOf R) := hrow
   rcases h0.2 with ⟨rfl, hR0⟩ | ⟨g, cap, cur, rfl, _⟩
   · have hRn : R = [] := List.eq_nil_of_length_eq_zero hR0
     subst hRn
     have H32 : Hid (Calls Tryz.prog 145 #[.slice none 0 0, .func (.func 103) #[] #[]] wr fun e w' => e = .returned (.tuple #[]) ∧ w' = wr) := AnyF.slices_SortFunc_none (P := Tryz.prog) (ρ := Tryz.sortL_ren) { Tryz.sortL with } none 0 (.func (.func 103) #[] #[]) wr
     have H33 := Lib.hid (Tryz.slices_Compact_string_empty none 0 wr)
     clear hrow hb hmem h0
     go_wp2_with (first
      | (go_at_call 145; refine H32.out.mono ?_; rintro e w' ⟨rfl, rfl⟩)
      | (go_at_call 146; refine H33.out.mono ?_; rintro e w' ⟨rfl, rfl⟩))
     go_ret
     exact ⟨HB.out, none, 0, [], rfl, fun _ => rfl, fun h => absurd h (by simp), List.Pairwise.nil, HM2.out⟩
   · have H32 := Lib.hid (sortFunc_any EW.out HE.out.1 hrow (fun x h => ((HM2.out x).1 h).2) (by omega))
     have hg1 := (World.ownsRow.lt hrow g rfl).1
     clear hrow hb hmem h0
     go_wp2_with fail
     refine H32.out.mono ?_
     rintro e w1 ⟨rfl, hb1, zs, hzl, hzr, hzm, hzh, hgs, hcap⟩
     have H33 := Lib.hid (compact_any (B := w.heap.size) (cap := cap) hzh hgs hg1 (by omega) (by omega) hzr)
     rw [hzl] at H33
     have B1 := Lib.hid (HB.out.trans hb1)
     have HZ := Lib.hid hzm
     clear hb1 hzr hzm hzh H32
     go_wp2_with fail
     refine H33.out.mono ?_
     rintro e w2 ⟨hb2, R2, rfl, hs2, hr2, hm2⟩
     have B2 := Lib.hid (B1.out.trans hb2)
     have S2 := Lib.hid hs2
     have R2' := Lib.hid hr2
     have M2 := Lib.hid hm2
     clear hb2 hs2 hr2 hm2 H33
     go_wp2_with fail
     go_ret
     exact ⟨B2.out, _, _, R2, rfl, (fun h => by cases h), S2.out, R2'.out, fun x => ((M2.out x).trans (HZ.out x)).trans (HM2.out x)⟩
  | succ j =>
   have hm : m < l.length := by omega
   obtain ⟨x, hx⟩ : ∃ x, l[m]? = some x := ⟨_, List.getElem?_eq_getElem hm⟩
   obtain ⟨b, o, rfl, hlt, hcells⟩ := HL.out (by omega)
   have cx := (hb.cell (p := ⟨b, o + m, none⟩) hlt).trans (hcells m x hx)
   have hxl := HX.out x (List.mem_of_getElem? hx)
   have H10 := Lib.hid (right_any EW.out hxl)
   have HT := Lib.hid (take_mem hx)
   have HMK := Lib.hid hmk
   cases hc : (catOf x).isSome with
   | false =>
     have HN : Hid (∀ y, y ∈ R ↔ y ∈ l.take (m + 1) ∧ (catOf y).isSome = true) := fun y => by
      rw [HT.out y, HM.out y]
      constructor
      · rintro ⟨h1, h2⟩; exact ⟨.inl h1, h2⟩
      · rintro ⟨h1 | h1, h2⟩
        · exact ⟨h1, h2⟩
        · subst h1; rw [hc] at h2; cases h2
     rw [hc] at H10
     clear hx hcells hmk hb hrow hmem hc
     go_wp2_with fail
     refine H10.out.mono ?_
     rintro e w1 ⟨rfl, hb1⟩
     have B1 := Lib.hid (HB.out.trans (hb1.mono HB.out.size))
     have R1 := Lib.hid (HR.out.below hb1)
     clear hb1 cx H10
     go_wp2_with fail
     go_roundg j
     case measure => omega
     case rel => exact ⟨m + 1, R, by have := HMK.out; omega, by go_num, R1.out, by omega, HN.out, B1.out⟩
   | true =>
     have HN : Hid (∀ y, y ∈ R ++ [x] ↔ y ∈ l.take (m + 1) ∧ (catOf y).isSome = true) := fun y => by
      rw [HT.out y, List.mem_append, HM.out y, List.mem_singleton]
      constructor
      · rintro (⟨h1, h2⟩ | h1)
        · exact ⟨.inl h1, h2⟩
        · subst h1; exact ⟨.inr rfl, hc⟩
      · rintro ⟨h1 | h1, h2⟩
        · exact .inl ⟨h1, h2⟩
        · exact .inr h1
     rw [hc] at H10
     clear hx hcells hmk hb hrow hmem hc
     go_wp2_with fail
     refine H10.out.mono ?_
     rintro e w1 ⟨rfl, hb1⟩
     have B1 := Lib.hid (HB.out.trans (hb1.mono HB.out.size))
     have R1 := Lib.hid (HR.out.below hb1)
     have hs1 := B1.out.size
     clear hb1 cx H10
     have hle : R.length + 1 ≤ 100000001 := by omega
     have hbase : w.heap.size ≤ (w1.alloc (.cells #[.string (str x)] 9)).heap.size := by simp; omega
     go_wp2_with (first
      | (at_builtin; refine wpList_append_one rfl _ _ rfl w.heap.size _ R rfl (World.ownsRow.alloc R1.out _) ⟨w1.heap.size, 0, none⟩ x rfl (cell_one_new _ _ _) hle hbase ?_))
     intro v' w2 hown hb2
     have R2 := Lib.hid hown
     have B2 := Lib.hid ((B1.out.alloc B1.out.size _).trans hb2)
     clear hown hb2
     go_wp2_with fail
     go_roundg j
     case measure => omega
     case rel => exact ⟨m + 1, R ++ [x], by have := HMK.out; omega, by go_num, R2.out, by simp; omega, HN.out, B2.out⟩
end Go.Proofs.YtgcbfggoddkhnaaGreatDoor
namespace Go.Proofs.YtgcbfggoddkhnaaGreatDoor
open Go.RowKit
set_option maxRecDepth 100000 in
theorem ownRight_any {w : World} {A : Option Addr} {c : Nat} {l : List (List UInt8)} (he : Env w) (hl : SL w A c l) :
   Calls Tryz.prog 61 #[.slice A l.length c] w (RetB w (.bool (decide (OwnL l)))) := by
 have HL := Lib.hid hl
 have hn := hl.len
 have H38 := Lib.hid (sort_any (c := c) he hl.strs hl.txt (by omega))
 clear he hl
 by_cases h8 : 8 < l.length
 · have HD : Hid (decide (OwnL l) = false) := decide_eq_false fun h => by have := h.1; omega
   have hle : ¬ ((l.length : Int) ≤ 8) := by omega
   go_enter Tryz.func61, Tryz.ntmps61
   go_wp2_with fail
   go_ret
   exact ⟨by rw [HD.out] <;> rfl, Below.refl _ _⟩
 have hle : (l.length : Int) ≤ 8 := by omega
 have h8' : l.length ≤ 8 := by omega
 clear h8
 go_enter Tryz.func61, Tryz.ntmps61
 go_wp2_with fail
 refine H38.out.mono ?_
 rintro e w1 ⟨hb1, A1, c1, R, rfl, hnil, hs1, hr1, hm1⟩
 have HD := Lib.hid (own_sort h8' hr1 hm1)
 have L1 := Lib.hid (HL.out.on hb1)
 have B1 := Lib.hid hb1
 have H43 := Lib.hid (equalS_any (c := c) (c' := c1) L1.out.strs hs1 hn)
 rw [HD.out] at H43
 clear hb1 hnil hs1 hr1 hm1 H38
 go_wp2_with fail
 refine H43.out.mono ?_
 rintro e w2 ⟨rfl, hb2⟩
 have B2 : Hid (Below w.heap.size w w2) := B1.out.trans (hb2.mono B1.out.size)
 clear hb2 H43
 go_wp2_with fail
 go_ret
 exact ⟨rfl, B2.out⟩
end Go.Proofs.YtgcbfggoddkhnaaGreatDoor
