/- Lemmas for the law: Ry. -/
import Derived.Test.YtgcbfggoddkhnaaGreatDoorM24
namespace Go.Proofs.YtgcbfggoddkhnaaGreatDoor
open Go.RowKit
open Go.Lib Go.Sort
theorem refIn_ret (n l m : Int) (W : World) : Calls Tryz.prog 64 #[.int .i64 n, .int .i64 l, .int .i64 m] W (RetB W (.bool (decide (l ≤ n ∧ n ≤ m)))) :=
 (refIn_any n l m W).mono fun _ _ h => ⟨h.1, h.2 ▸ Below.refl _ _⟩
def KGood (nx : Int) (ks : List Kd) (m : Nat) : Prop := ∀ i x, i < m → ks[i]? = some x → KidOk nx x ∧ ∀ y, 0 < i → ks[i - 1]? = some y → y.1 < x.1
noncomputable instance (nx : Int) (ks : List Kd) (m : Nat) : Decidable (KGood nx ks m) := Classical.propDecidable _
theorem kGood_zero (nx : Int) (ks : List Kd) : KGood nx ks 0 := fun i x h => absurd h (by omega)
def KNext (nx : Int) (ks : List Kd) (m : Nat) (x : Kd) : Prop := KidOk nx x ∧ ∀ y, 0 < m → ks[m - 1]? = some y → y.1 < x.1
noncomputable instance (nx : Int) (ks : List Kd) (m : Nat) (x : Kd) : Decidable (KNext nx ks m x) := Classical.propDecidable _
def MNext (ms : List Mp) (m : Nat) (x : Mp) : Prop := MapOk x ∧ ∀ y, 0 < m → ms[m - 1]? = some y → y.1 < x.1
noncomputable instance (ms : List Mp) (m : Nat) (x : Mp) : Decidable (MNext ms m x) := Classical.propDecidable _
theorem kGood_succ {nx : Int} {ks : List Kd} {m : Nat} {x : Kd} (h : ks[m]? = some x) : KGood nx ks (m + 1) ↔ KGood nx ks m ∧ KidOk nx x ∧ ∀ y, 0 < m → ks[m - 1]? = some y → y.1 < x.1 := by
 constructor
 · intro g
   exact ⟨fun i x hi hx => g i x (by omega) hx, g m x (by omega) h⟩
 · rintro ⟨g1, g2⟩ i y hi hy
   by_cases e : i = m
   · subst e
     rw [h] at hy
     injection hy with hy
     subst hy
     exact g2
   · exact g1 i y (by omega) hy
theorem rises_adj {α : Type} (f : α → Int) {l : List α} (h : ∀ i x y, l[i]? = some x → l[i + 1]? = some y → f x < f y) : l.Pairwise fun a b => f a < f b := by
 induction l with
 | nil => exact List.Pairwise.nil
 | cons a r ih =>
  have h2 : ∀ i x y, r[i]? = some x → r[i + 1]? = some y → f x < f y := fun i x y hx hy => h (i + 1) x y (by simpa using hx) (by simpa using hy)
  refine List.pairwise_cons.2 ⟨fun b hb => ?_, ih h2⟩
  cases r with
  | nil => cases hb
  | cons c q =>
   have h3 : f a < f c := h 0 a c rfl rfl
   rcases List.mem_cons.1 hb with e | e
   · rw [e]; exact h3
   · exact Int.lt_trans h3 ((List.pairwise_cons.1 (ih h2)).1 b e)
theorem kGood_all {nx : Int} {ks : List Kd} : (ks.length ≤ 16 ∧ KGood nx ks ks.length) ↔ KidsOk nx ks := by
 constructor
 · rintro ⟨h1, h2⟩
   refine ⟨h1, fun k hk => ?_, rises_adj (fun k : Kd => k.1) fun i x y hx hy => ?_⟩
   · obtain ⟨i, hi, e⟩ := List.getElem_of_mem hk
     exact (h2 i k hi (by rw [List.getElem?_eq_getElem hi, e])).1
   · have hi := (List.getElem?_eq_some_iff.1 hy).1
     exact (h2 (i + 1) y hi hy).2 x (by omega) (by simpa using hx)
 · rintro ⟨h1, h2, h3⟩
   refine ⟨h1, fun i x hi hx => ⟨h2 x (List.mem_of_getElem? hx), fun y h0 hy => ?_⟩⟩
   have a1 := (List.getElem?_eq_some_iff.1 hx)
   have a2 := (List.getElem?_eq_some_iff.1 hy)
   have := List.pairwise_iff_getElem.1 h3 (i - 1) i a2.1 a1.1 (by omega)
   rw [a1.2, a2.2] at this
   exact this
def MGood (ms : List Mp) (m : Nat) : Prop := ∀ i x, i < m → ms[i]? = some x → MapOk x ∧ ∀ y, 0 < i → ms[i - 1]? = some y → y.1 < x.1
noncomputable instance (ms : List Mp) (m : Nat) : Decidable (MGood ms m) := Classical.propDecidable _
theorem mGood_zero (ms : List Mp) : MGood ms 0 := fun i x h => absurd h (by omega)
theorem mGood_succ {ms : List Mp} {m : Nat} {x : Mp} (h : ms[m]? = some x) : MGood ms (m + 1) ↔ MGood ms m ∧ MapOk x ∧ ∀ y, 0 < m → ms[m - 1]? = some y → y.1 < x.1 := by
 constructor
 · intro g
   exact ⟨fun i x hi hx => g i x (by omega) hx, g m x (by omega) h⟩
 · rintro ⟨g1, g2⟩ i y hi hy
   by_cases e : i = m
   · subst e
     rw [h] at hy
     injection hy with hy
     subst hy
     exact g2
   · exact g1 i y (by omega) hy
theorem mGood_all {ms : List Mp} : (ms.length ≤ 4 ∧ MGood ms ms.length) ↔ MapsOk ms := by
 constructor
 · rintro ⟨h1, h2⟩
   refine ⟨h1, fun k hk => ?_, rises_adj (fun k : Mp => k.1) fun i x y hx hy => ?_⟩
   · obtain ⟨i, hi, e⟩ := List.getElem_of_mem hk
     exact (h2 i k hi (by rw [List.getElem?_eq_getElem hi, e])).1
   · have hi := (List.getElem?_eq_some_iff.1 hy).1
     exact (h2 (i + 1) y hi hy).2 x (by omega) (by simpa using hx)
 · rintro ⟨h1, h2, h3⟩
   refine ⟨h1, fun i x hi hx => ⟨h2 x (List.mem_of_getElem? hx), fun y h0 hy => ?_⟩⟩
   have a1 := (List.getElem?_eq_some_iff.1 hx)
   have a2 := (List.getElem?_eq_some_iff.1 hy)
   have := List.pairwise_iff_getElem.1 h3 (i - 1) i a2.1 a1.1 (by omega)
   rw [a1.2, a2.2] at this
   exact this
def RFirst (o : Ob) : Prop := (1 ≤ o.kind ∧ o.kind ≤ 5) ∧ RightL o.lab ∧ o.kids.length ≤ 16 ∧ (0 ≤ o.next ∧ o.next ≤ 1048577) ∧ o.bytes.length ≤ 256 ∧ OwnL o.own ∧ (0 ≤ o.cats ∧ o.cats ≤ 65536) ∧ RightL o.entry ∧ (0 ≤ o.ring ∧ o.ring ≤ 1048576) ∧ o.maps.length ≤ 4
instance (o : Ob) : Decidable (RFirst o) := inferInstanceAs (Decidable (_ ∧ _))
theorem right_iff {o : Ob} {zk nx zc zr : Int} {nk nb no ne nm : Nat} (a1 : zk = o.kind) (a2 : nx = o.next) (a3 : zc = o.cats) (a4 : zr = o.ring) (a6 : nk = o.kids.length) (a7 : nb = o.bytes.length) (a8 : no = o.own.length) (a9 : ne = o.entry.length) (a10 : nm = o.maps.length) :
   ObOk o ↔ (((RFirst o ∧ KGood o.next o.kids o.kids.length) ∧ MGood o.maps o.maps.length) ∧ (zk = 1 ∨ (nk = 0 ∧ nx = 0)) ∧ (zk = 2 ∨ nb = 0) ∧ (zk = 3 ∨ zc = 0) ∧ (zk = 3 ∨ zk = 4 ∨ no = 0) ∧ (zk = 4 ∨ (ne = 0 ∧ zr = 0)) ∧ (zk = 5 ∨ nm = 0)) := by
 have hf : FieldsOk o ↔ ((zk = 1 ∨ (nk = 0 ∧ nx = 0)) ∧ (zk = 2 ∨ nb = 0) ∧ (zk = 3 ∨ zc = 0) ∧ (zk = 3 ∨ zk = 4 ∨ no = 0) ∧ (zk = 4 ∨ (ne = 0 ∧ zr = 0)) ∧ (zk = 5 ∨ nm = 0)) := by
   unfold FieldsOk
   rw [a1, a2, a3, a4, a6, a7, a8, a9, a10]
   exact ⟨fun ⟨a, b, c, d, e, f⟩ => ⟨a, b, d, c, e, f⟩, fun ⟨a, b, c, d, e, f⟩ => ⟨a, b, d, c, e, f⟩⟩
 rw [← hf]
 constructor
 · intro h
   have hk := kGood_all.2 h.kids
   have hm := mGood_all.2 h.maps
   exact ⟨⟨⟨⟨h.kind, h.lab, hk.1, h.next, h.bytes, h.own, h.cats, h.entry, h.ring, hm.1⟩, hk.2⟩, hm.2⟩, h.fields⟩
 · rintro ⟨⟨⟨⟨b1, b2, b3, b4, b5, b6, b7, b8, b9, b10⟩, c1⟩, c2⟩, c3⟩
   exact ⟨b1, b2, kGood_all.1 ⟨b3, c1⟩, b4, b5, b6, b7, b8, b9, mGood_all.1 ⟨b10, c2⟩, c3⟩
def RtK (wA : World) (o : Ob) (k : Nat) (s i : Value) (wr : World) : Prop :=
 ∃ m, m + k = o.kids.length ∧ i = .int .i64 (m : Int) ∧ s = .bool (decide (RFirst o) && decide (KGood o.next o.kids m)) ∧ Below wA.heap.size wA wr
def RtM (wA : World) (o : Ob) (c : Bool) (k : Nat) (s i : Value) (wr : World) : Prop :=
 ∃ m, m + k = o.maps.length ∧ i = .int .i64 (m : Int) ∧ s = .bool (c && decide (MGood o.maps m)) ∧ Below wA.heap.size wA wr
set_option maxRecDepth 100000 in
set_option maxHeartbeats 8000000 in
theorem refRight9_any {w : World} {F : Nat → Prop} {v : Value} {o : Ob} (h : ObjAt w F v o) (hw : WideO o) : Calls Tryz.prog 15 #[v] w (RetB w (.bool (decide (ObOk o)))) := by
 obtain ⟨vk, ⟨vl, vb, vo, ve, vm, rfl, ⟨Al, cl, rfl, -, -, hl3⟩, ⟨Ab, cb, rfl, -, -, -⟩, ⟨Ao, co, rfl, -, -, ho3⟩, ⟨Ae, ce, rfl, -, -, he3⟩, ⟨Am, cm, rfl, -, -, hm3⟩⟩, ⟨Ak, ck, rfl, -, -, hk3⟩⟩ := h
 have HSK := Lib.hid hk3
 have HSM := Lib.hid hm3
 have HW := Lib.hid hw
 have RL : Hid (∀ W, Below w.heap.size w W → Calls Tryz.prog 65 #[.slice Al o.lab.length cl] W (RetB W (.bool (decide (RightL o.lab))))) := fun W hW => refRight_any ((hl3.ents.below hW).more hW.size) (fun e he => (hw.lab.2 e he).1) (by have := hw.lab.1; unfold maxLen; omega)
 have RE : Hid (∀ W, Below w.heap.size w W → Calls Tryz.prog 65 #[.slice Ae o.entry.length ce] W (RetB W (.bool (decide (RightL o.entry))))) := fun W hW => refRight_any ((he3.ents.below hW).more hW.size) (fun e he => (hw.entry.2 e he).1) (by have := hw.entry.1; unfold maxLen; omega)
 have RO : Hid (∀ W, Below w.heap.size w W → Calls Tryz.prog 66 #[.slice Ao o.own.length co] W (RetB W (.bool (decide (OwnL o.own))))) := fun W hW => refRightO_any ((ho3.strs.below hW).more hW.size) hw.own.2 hw.own.1
 obtain ⟨zk, hzk⟩ : ∃ z, z = o.kind := ⟨_, rfl⟩
 obtain ⟨nx, hnx⟩ : ∃ z, z = o.next := ⟨_, rfl⟩
 obtain ⟨zc, hzc⟩ : ∃ z, z = o.cats := ⟨_, rfl⟩
 obtain ⟨zr, hzr⟩ : ∃ z, z = o.ring := ⟨_, rfl⟩
 obtain ⟨nl, hnl⟩ : ∃ z, z = o.lab.length := ⟨_, rfl⟩
 obtain ⟨nk, hnk⟩ : ∃ z, z = o.kids.length := ⟨_, rfl⟩
 obtain ⟨nb, hnb⟩ : ∃ z, z = o.bytes.length := ⟨_, rfl⟩
 obtain ⟨no, hno⟩ : ∃ z, z = o.own.length := ⟨_, rfl⟩
 obtain ⟨ne, hne⟩ : ∃ z, z = o.entry.length := ⟨_, rfl⟩
 obtain ⟨nm, hnm⟩ : ∃ z, z = o.maps.length := ⟨_, rfl⟩
 have hN : nk ≤ 1048576 ∧ nm ≤ 1048576 := ⟨by rw [hnk]; exact hw.kids.1, by rw [hnm]; exact hw.maps.1⟩
 obtain ⟨hNk, hNm⟩ := hN
 have EQ := Lib.hid (⟨hzk, hnx, hzc, hzr, hnl, hnk, hnb, hno, hne, hnm⟩ : zk = o.kind ∧ nx = o.next ∧ zc = o.cats ∧ zr = o.ring ∧ nl = o.lab.length ∧ nk = o.kids.length ∧ nb = o.bytes.length ∧ no = o.own.length ∧ ne = o.entry.length ∧ nm = o.maps.length)
 have hR1 : RFirst o ↔ ((1 ≤ zk ∧ zk ≤ 5) ∧ RightL o.lab ∧ nk ≤ 16 ∧ (0 ≤ nx ∧ nx ≤ 1048577) ∧ nb ≤ 256 ∧ OwnL o.own ∧ (0 ≤ zc ∧ zc ≤ 65536) ∧ RightL o.entry ∧ (0 ≤ zr ∧ zr ≤ 1048576) ∧ nm ≤ 4) := by
  rw [hzk, hnx, hzc, hzr, hnk, hnb, hnm]; exact Iff.rfl
 have HR1 := Lib.hid hR1
 rw [← hnl] at RL
 rw [← hne] at RE
 rw [← hno] at RO
 rw [← hzk, ← hnx, ← hzc, ← hzr, ← hnl, ← hnk, ← hnb, ← hno, ← hne, ← hnm]
 have C1 := Lib.hid (fun W : World => refIn_any zk 1 5 W)
 have C4 := Lib.hid (fun W : World => refIn_any nx 0 1048577 W)
 have C7 := Lib.hid (fun W : World => refIn_any zc 0 65536 W)
 have C9 := Lib.hid (fun W : World => refIn_any zr 0 1048576 W)
 clear hw hl3 ho3 he3 hm3 hk3 hzk hnx hzc hzr hnl hnk hnb hno hne hnm hR1
 obtain ⟨wA, hwA⟩ : ∃ W, W = w.alloc (.cells #[.int .i64 zk, .slice Al nl cl, .slice Ak nk ck, .int .i64 nx, .slice Ab nb cb, .slice Ao no co, .int .i64 zc, .slice Ae ne ce, .int .i64 zr, .slice Am nm cm] 29) := ⟨_, rfl⟩
 obtain ⟨bx, hbx⟩ : ∃ b, b = w.heap.size := ⟨_, rfl⟩
 have X0 : BoxAt wA bx #[.int .i64 zk, .slice Al nl cl, .slice Ak nk ck, .int .i64 nx, .slice Ab nb cb, .slice Ao no co, .int .i64 zc, .slice Ae ne ce, .int .i64 zr, .slice Am nm cm] 29 := by rw [hwA, hbx]; exact BoxAt.new _ _ _
 have B0 : Below w.heap.size w wA := by rw [hwA]; exact (Below.refl _ _).alloc (Nat.le_refl _) _
 have X0 := Lib.hid X0
 have B0 := Lib.hid B0
 obtain ⟨q0, q1, q2, q3, q4, q5, q6, q7, q8, q9⟩ := box10 X0.out
 go_enter Tryz.func15, Tryz.ntmps15
 go_upto_region 1 with fail
 rw [← hwA, ← hbx]
 clear hwA hbx
 go_cut [3] from 8 to 58 (fun s3 wc => s3 = .bool (decide (RFirst o)) ∧ Below w.heap.size w wc ∧ BoxAt wc bx #[.int .i64 zk, .slice Al nl cl, .slice Ak nk ck, .int .i64 nx, .slice Ab nb cb, .slice Ao no co, .int .i64 zc, .slice Ae ne ce, .int .i64 zr, .slice Am nm cm] 29)
 case first =>
  by_cases c1 : 1 ≤ zk ∧ zk ≤ 5
  case neg =>
   have HD : Hid (decide (RFirst o) = false) := decide_eq_false fun h => c1 (HR1.out.1 h).1
   rw [decide_eq_false c1] at C1
   clear c1
   go_wp2_with (first
    | (go_at_call 64; (with_reducible refine Calls.mono (C1.out _) ?_); rintro e wC1 ⟨rfl, rfl⟩))
   go_meet
   case rel => exact ⟨by rw [HD.out], B0.out, X0.out⟩
  case pos =>
   by_cases c2 : RightL o.lab
   case neg =>
    have HD : Hid (decide (RFirst o) = false) := decide_eq_false fun h => c2 (HR1.out.1 h).2.1
    rw [decide_eq_true c1] at C1
    rw [decide_eq_false c2] at RL
    clear c1 c2
    go_wp2_with (first
     | (go_at_call 65; (with_reducible refine Calls.mono (RL.out _ B0.out) ?_); rintro e wRL ⟨rfl, hbRL⟩; have bRL := Lib.hid (next_below B0.out hbRL); have xRL := Lib.hid ((X0.out).on hbRL); clear hbRL; obtain ⟨qRL0, qRL1, qRL2, qRL3, qRL4, qRL5, qRL6, qRL7, qRL8, qRL9⟩ := box10 xRL.out)
     | (go_at_call 64; (with_reducible refine Calls.mono (C1.out _) ?_); rintro e wC1 ⟨rfl, rfl⟩))
    go_meet
    case rel => exact ⟨by rw [HD.out], bRL.out, xRL.out⟩
   case pos =>
    by_cases c3 : nk ≤ 16
    case neg =>
     have HD : Hid (decide (RFirst o) = false) := decide_eq_false fun h => c3 (HR1.out.1 h).2.2.1
     rw [decide_eq_true c1] at C1
     rw [decide_eq_true c2] at RL
     have tc3 : ¬ (nk : Int) ≤ 16 := by omega
     clear c1 c2 c3
     go_wp2_with (first
       | (go_at_call 65; (with_reducible refine Calls.mono (RL.out _ B0.out) ?_); rintro e wRL ⟨rfl, hbRL⟩; have bRL := Lib.hid (next_below B0.out hbRL); have xRL := Lib.hid ((X0.out).on hbRL); clear hbRL; obtain ⟨qRL0, qRL1, qRL2, qRL3, qRL4, qRL5, qRL6, qRL7, qRL8, qRL9⟩ := box10 xRL.out)
       | (go_at_call 64; (with_reducible refine Calls.mono (C1.out _) ?_); rintro e wC1 ⟨rfl, rfl⟩))
     go_meet
     case rel => exact ⟨by rw [HD.out], bRL.out, xRL.out⟩
    case pos =>
     by_cases c4 : 0 ≤ nx ∧ nx ≤ 1048577
     case neg =>
       have HD : Hid (decide (RFirst o) = false) := decide_eq_false fun h => c4 (HR1.out.1 h).2.2.2.1
       rw [decide_eq_true c1] at C1
       rw [decide_eq_true c2] at RL
       rw [decide_eq_false c4] at C4
       have tc3 : (nk : Int) ≤ 16 := by omega
       clear c1 c2 c3 c4
       go_wp2_with (first
        | (go_at_call 64; (with_reducible refine Calls.mono (C4.out _) ?_); rintro e wC4 ⟨rfl, rfl⟩)
        | (go_at_call 65; (with_reducible refine Calls.mono (RL.out _ B0.out) ?_); rintro e wRL ⟨rfl, hbRL⟩; have bRL := Lib.hid (next_below B0.out hbRL); have xRL := Lib.hid ((X0.out).on hbRL); clear hbRL; obtain ⟨qRL0, qRL1, qRL2, qRL3, qRL4, qRL5, qRL6, qRL7, qRL8, qRL9⟩ := box10 xRL.out)
        | (go_at_call 64; (with_reducible refine Calls.mono (C1.out _) ?_); rintro e wC1 ⟨rfl, rfl⟩))
       go_meet
       case rel => exact ⟨by rw [HD.out], bRL.out, xRL.out⟩
     case pos =>
       by_cases c5 : nb ≤ 256
       case neg =>
        have HD : Hid (decide (RFirst o) = false) := decide_eq_false fun h => c5 (HR1.out.1 h).2.2.2.2.1
        rw [decide_eq_true c1] at C1
        rw [decide_eq_true c2] at RL
        rw [decide_eq_true c4] at C4
        have tc3 : (nk : Int) ≤ 16 := by omega
        have tc5 : ¬ (nb : Int) ≤ 256 := by omega
        clear c1 c2 c3 c4 c5
        go_wp2_with (first
          | (go_at_call 64; (with_reducible refine Calls.mono (C4.out _) ?_); rintro e wC4 ⟨rfl, rfl⟩)
          | (go_at_call 65; (with_reducible refine Calls.mono (RL.out _ B0.out) ?_); rintro e wRL ⟨rfl, hbRL⟩; have bRL := Lib.hid (next_below B0.out hbRL); have xRL := Lib.hid ((X0.out).on hbRL); clear hbRL; obtain ⟨qRL0, qRL1, qRL2, qRL3, qRL4, qRL5, qRL6, qRL7, qRL8, qRL9⟩ := box10 xRL.out)
          | (go_at_call 64; (with_reducible refine Calls.mono (C1.out _) ?_); rintro e wC1 ⟨rfl, rfl⟩))
        go_meet
        case rel => exact ⟨by rw [HD.out], bRL.out, xRL.out⟩
       case pos =>
        by_cases c6 : OwnL o.own
        case neg =>
          have HD : Hid (decide (RFirst o) = false) := decide_eq_false fun h => c6 (HR1.out.1 h).2.2.2.2.2.1
          rw [decide_eq_true c1] at C1
          rw [decide_eq_true c2] at RL
          rw [decide_eq_true c4] at C4
          rw [decide_eq_false c6] at RO
          have tc3 : (nk : Int) ≤ 16 := by omega
          have tc5 : (nb : Int) ≤ 256 := by omega
          clear c1 c2 c3 c4 c5 c6
          go_wp2_with (first
           | (go_at_call 66; (with_reducible refine Calls.mono (RO.out _ bRL.out) ?_); rintro e wRO ⟨rfl, hbRO⟩; have bRO := Lib.hid (next_below bRL.out hbRO); have xRO := Lib.hid ((xRL.out).on hbRO); clear hbRO; obtain ⟨qRO0, qRO1, qRO2, qRO3, qRO4, qRO5, qRO6, qRO7, qRO8, qRO9⟩ := box10 xRO.out)
           | (go_at_call 64; (with_reducible refine Calls.mono (C4.out _) ?_); rintro e wC4 ⟨rfl, rfl⟩)
           | (go_at_call 65; (with_reducible refine Calls.mono (RL.out _ B0.out) ?_); rintro e wRL ⟨rfl, hbRL⟩; have bRL := Lib.hid (next_below B0.out hbRL); have xRL := Lib.hid ((X0.out).on hbRL); clear hbRL; obtain ⟨qRL0, qRL1, qRL2, qRL3, qRL4, qRL5, qRL6, qRL7, qRL8, qRL9⟩ := box10 xRL.out)
           | (go_at_call 64; (with_reducible refine Calls.mono (C1.out _) ?_); rintro e wC1 ⟨rfl, rfl⟩))
          go_meet
          case rel => exact ⟨by rw [HD.out], bRO.out, xRO.out⟩
        case pos =>
          by_cases c7 : 0 ≤ zc ∧ zc ≤ 65536
          case neg =>
           have HD : Hid (decide (RFirst o) = false) := decide_eq_false fun h => c7 (HR1.out.1 h).2.2.2.2.2.2.1
           rw [decide_eq_true c1] at C1
           rw [decide_eq_true c2] at RL
           rw [decide_eq_true c4] at C4
           rw [decide_eq_true c6] at RO
           rw [decide_eq_false c7] at C7
           have tc3 : (nk : Int) ≤ 16 := by omega
           have tc5 : (nb : Int) ≤ 256 := by omega
           clear c1 c2 c3 c4 c5 c6 c7
           go_wp2_with (first
            | (go_at_call 64; (with_reducible refine Calls.mono (C7.out _) ?_); rintro e wC7 ⟨rfl, rfl⟩)
            | (go_at_call 66; (with_reducible refine Calls.mono (RO.out _ bRL.out) ?_); rintro e wRO ⟨rfl, hbRO⟩; have bRO := Lib.hid (next_below bRL.out hbRO); have xRO := Lib.hid ((xRL.out).on hbRO); clear hbRO; obtain ⟨qRO0, qRO1, qRO2, qRO3, qRO4, qRO5, qRO6, qRO7, qRO8, qRO9⟩ := box10 xRO.out)
            | (go_at_call 64; (with_reducible refine Calls.mono (C4.out _) ?_); rintro e wC4 ⟨rfl, rfl⟩)
            | (go_at_call 65; (with_reducible refine Calls.mono (RL.out _ B0.out) ?_); rintro e wRL ⟨rfl, hbRL⟩; have bRL := Lib.hid (next_below B0.out hbRL); have xRL := Lib.hid ((X0.out).on hbRL); clear hbRL; obtain ⟨qRL0, qRL1, qRL2, qRL3, qRL4, qRL5, qRL6, qRL7, qRL8, qRL9⟩ := box10 xRL.out)
            | (go_at_call 64; (with_reducible refine Calls.mono (C1.out _) ?_); rintro e wC1 ⟨rfl, rfl⟩))
           go_meet
           case rel => exact ⟨by rw [HD.out], bRO.out, xRO.out⟩
          case pos =>
           by_cases c8 : RightL o.entry
           case neg =>
            have HD : Hid (decide (RFirst o) = false) := decide_eq_false fun h => c8 (HR1.out.1 h).2.2.2.2.2.2.2.1
            rw [decide_eq_true c1] at C1
            rw [decide_eq_true c2] at RL
            rw [decide_eq_true c4] at C4
            rw [decide_eq_true c6] at RO
            rw [decide_eq_true c7] at C7
            rw [decide_eq_false c8] at RE
            have tc3 : (nk : Int) ≤ 16 := by omega
            have tc5 : (nb : Int) ≤ 256 := by omega
            clear c1 c2 c3 c4 c5 c6 c7 c8
            go_wp2_with (first
             | (go_at_call 65; (with_reducible refine Calls.mono (RE.out _ bRO.out) ?_); rintro e wRE ⟨rfl, hbRE⟩; have bRE := Lib.hid (next_below bRO.out hbRE); have xRE := Lib.hid ((xRO.out).on hbRE); clear hbRE; obtain ⟨qRE0, qRE1, qRE2, qRE3, qRE4, qRE5, qRE6, qRE7, qRE8, qRE9⟩ := box10 xRE.out)
             | (go_at_call 64; (with_reducible refine Calls.mono (C7.out _) ?_); rintro e wC7 ⟨rfl, rfl⟩)
             | (go_at_call 66; (with_reducible refine Calls.mono (RO.out _ bRL.out) ?_); rintro e wRO ⟨rfl, hbRO⟩; have bRO := Lib.hid (next_below bRL.out hbRO); have xRO := Lib.hid ((xRL.out).on hbRO); clear hbRO; obtain ⟨qRO0, qRO1, qRO2, qRO3, qRO4, qRO5, qRO6, qRO7, qRO8, qRO9⟩ := box10 xRO.out)
             | (go_at_call 64; (with_reducible refine Calls.mono (C4.out _) ?_); rintro e wC4 ⟨rfl, rfl⟩)
             | (go_at_call 65; (with_reducible refine Calls.mono (RL.out _ B0.out) ?_); rintro e wRL ⟨rfl, hbRL⟩; have bRL := Lib.hid (next_below B0.out hbRL); have xRL := Lib.hid ((X0.out).on hbRL); clear hbRL; obtain ⟨qRL0, qRL1, qRL2, qRL3, qRL4, qRL5, qRL6, qRL7, qRL8, qRL9⟩ := box10 xRL.out)
             | (go_at_call 64; (with_reducible refine Calls.mono (C1.out _) ?_); rintro e wC1 ⟨rfl, rfl⟩))
            go_meet
            case rel => exact ⟨by rw [HD.out], bRE.out, xRE.out⟩
           case pos =>
            by_cases c9 : 0 ≤ zr ∧ zr ≤ 1048576
            case neg =>
             have HD : Hid (decide (RFirst o) = false) := decide_eq_false fun h => c9 (HR1.out.1 h).2.2.2.2.2.2.2.2.1
             rw [decide_eq_true c1] at C1
             rw [decide_eq_true c2] at RL
             rw [decide_eq_true c4] at C4
             rw [decide_eq_true c6] at RO
             rw [decide_eq_true c7] at C7
             rw [decide_eq_true c8] at RE
             rw [decide_eq_false c9] at C9
             have tc3 : (nk : Int) ≤ 16 := by omega
             have tc5 : (nb : Int) ≤ 256 := by omega
             clear c1 c2 c3 c4 c5 c6 c7 c8 c9
             go_wp2_with (first
              | (go_at_call 64; (with_reducible refine Calls.mono (C9.out _) ?_); rintro e wC9 ⟨rfl, rfl⟩)
              | (go_at_call 65; (with_reducible refine Calls.mono (RE.out _ bRO.out) ?_); rintro e wRE ⟨rfl, hbRE⟩; have bRE := Lib.hid (next_below bRO.out hbRE); have xRE := Lib.hid ((xRO.out).on hbRE); clear hbRE; obtain ⟨qRE0, qRE1, qRE2, qRE3, qRE4, qRE5, qRE6, qRE7, qRE8, qRE9⟩ := box10 xRE.out)
              | (go_at_call 64; (with_reducible refine Calls.mono (C7.out _) ?_); rintro e wC7 ⟨rfl, rfl⟩)
              | (go_at_call 66; (with_reducible refine Calls.mono (RO.out _ bRL.out) ?_); rintro e wRO ⟨rfl, hbRO⟩; have bRO := Lib.hid (next_below bRL.out hbRO); have xRO := Lib.hid ((xRL.out).on hbRO); clear hbRO; obtain ⟨qRO0, qRO1, qRO2, qRO3, qRO4, qRO5, qRO6, qRO7, qRO8, qRO9⟩ := box10 xRO.out)
              | (go_at_call 64; (with_reducible refine Calls.mono (C4.out _) ?_); rintro e wC4 ⟨rfl, rfl⟩)
              | (go_at_call 65; (with_reducible refine Calls.mono (RL.out _ B0.out) ?_); rintro e wRL ⟨rfl, hbRL⟩; have bRL := Lib.hid (next_below B0.out hbRL); have xRL := Lib.hid ((X0.out).on hbRL); clear hbRL; obtain ⟨qRL0, qRL1, qRL2, qRL3, qRL4, qRL5, qRL6, qRL7, qRL8, qRL9⟩ := box10 xRL.out)
              | (go_at_call 64; (with_reducible refine Calls.mono (C1.out _) ?_); rintro e wC1 ⟨rfl, rfl⟩))
             go_meet
             case rel => exact ⟨by rw [HD.out], bRE.out, xRE.out⟩
            case pos =>
             by_cases c10 : nm ≤ 4
             case neg =>
              have HD : Hid (decide (RFirst o) = false) := decide_eq_false fun h => c10 (HR1.out.1 h).2.2.2.2.2.2.2.2.2
              rw [decide_eq_true c1] at C1
              rw [decide_eq_true c2] at RL
              rw [decide_eq_true c4] at C4
              rw [decide_eq_true c6] at RO
              rw [decide_eq_true c7] at C7
              rw [decide_eq_true c8] at RE
              rw [decide_eq_true c9] at C9
              have tc3 : (nk : Int) ≤ 16 := by omega
              have tc5 : (nb : Int) ≤ 256 := by omega
              have tc10 : ¬ (nm : Int) ≤ 4 := by omega
              clear c1 c2 c3 c4 c5 c6 c7 c8 c9 c10
              go_wp2_with (first
               | (go_at_call 64; (with_reducible refine Calls.mono (C9.out _) ?_); rintro e wC9 ⟨rfl, rfl⟩)
               | (go_at_call 65; (with_reducible refine Calls.mono (RE.out _ bRO.out) ?_); rintro e wRE ⟨rfl, hbRE⟩; have bRE := Lib.hid (next_below bRO.out hbRE); have xRE := Lib.hid ((xRO.out).on hbRE); clear hbRE; obtain ⟨qRE0, qRE1, qRE2, qRE3, qRE4, qRE5, qRE6, qRE7, qRE8, qRE9⟩ := box10 xRE.out)
               | (go_at_call 64; (with_reducible refine Calls.mono (C7.out _) ?_); rintro e wC7 ⟨rfl, rfl⟩)
               | (go_at_call 66; (with_reducible refine Calls.mono (RO.out _ bRL.out) ?_); rintro e wRO ⟨rfl, hbRO⟩; have bRO := Lib.hid (next_below bRL.out hbRO); have xRO := Lib.hid ((xRL.out).on hbRO); clear hbRO; obtain ⟨qRO0, qRO1, qRO2, qRO3, qRO4, qRO5, qRO6, qRO7, qRO8, qRO9⟩ := box10 xRO.out)
               | (go_at_call 64; (with_reducible refine Calls.mono (C4.out _) ?_); rintro e wC4 ⟨rfl, rfl⟩)
               | (go_at_call 65; (with_reducible refine Calls.mono (RL.out _ B0.out) ?_); rintro e wRL ⟨rfl, hbRL⟩; have bRL := Lib.hid (next_below B0.out hbRL); have xRL := Lib.hid ((X0.out).on hbRL); clear hbRL; obtain ⟨qRL0, qRL1, qRL2, qRL3, qRL4, qRL5, qRL6, qRL7, qRL8, qRL9⟩ := box10 xRL.out)
               | (go_at_call 64; (with_reducible refine Calls.mono (C1.out _) ?_); rintro e wC1 ⟨rfl, rfl⟩))
              go_meet
              case rel => exact ⟨by rw [HD.out, decide_eq_false (show ¬ (nm : Int) ≤ 4 by omega)], bRE.out, xRE.out⟩
             case pos =>
              have HD : Hid (decide (RFirst o) = true) := decide_eq_true (HR1.out.2 ⟨c1, c2, c3, c4, c5, c6, c7, c8, c9, c10⟩)
              rw [decide_eq_true c1] at C1
              rw [decide_eq_true c2] at RL
              have tc3 : (nk : Int) ≤ 16 := by omega
              rw [decide_eq_true c4] at C4
              have tc5 : (nb : Int) ≤ 256 := by omega
              rw [decide_eq_true c6] at RO
              rw [decide_eq_true c7] at C7
              rw [decide_eq_true c8] at RE
              rw [decide_eq_true c9] at C9
              have tc10 : (nm : Int) ≤ 4 := by omega
              clear c1 c2 c3 c4 c5 c6 c7 c8 c9 c10
              go_wp2_with (first
               | (go_at_call 64; (with_reducible refine Calls.mono (C9.out _) ?_); rintro e wC9 ⟨rfl, rfl⟩)
               | (go_at_call 65; (with_reducible refine Calls.mono (RE.out _ bRO.out) ?_); rintro e wRE ⟨rfl, hbRE⟩; have bRE := Lib.hid (next_below bRO.out hbRE); have xRE := Lib.hid ((xRO.out).on hbRE); clear hbRE; obtain ⟨qRE0, qRE1, qRE2, qRE3, qRE4, qRE5, qRE6, qRE7, qRE8, qRE9⟩ := box10 xRE.out)
               | (go_at_call 64; (with_reducible refine Calls.mono (C7.out _) ?_); rintro e wC7 ⟨rfl, rfl⟩)
               | (go_at_call 66; (with_reducible refine Calls.mono (RO.out _ bRL.out) ?_); rintro e wRO ⟨rfl, hbRO⟩; have bRO := Lib.hid (next_below bRL.out hbRO); have xRO := Lib.hid ((xRL.out).on hbRO); clear hbRO; obtain ⟨qRO0, qRO1, qRO2, qRO3, qRO4, qRO5, qRO6, qRO7, qRO8, qRO9⟩ := box10 xRO.out)
               | (go_at_call 64; (with_reducible refine Calls.mono (C4.out _) ?_); rintro e wC4 ⟨rfl, rfl⟩)
               | (go_at_call 65; (with_reducible refine Calls.mono (RL.out _ B0.out) ?_); rintro e wRL ⟨rfl, hbRL⟩; have bRL := Lib.hid (next_below B0.out hbRL); have xRL := Lib.hid ((X0.out).on hbRL); clear hbRL; obtain ⟨qRL0, qRL1, qRL2, qRL3, qRL4, qRL5, qRL6, qRL7, qRL8, qRL9⟩ := box10 xRL.out)
               | (go_at_call 64; (with_reducible refine Calls.mono (C1.out _) ?_); rintro e wC1 ⟨rfl, rfl⟩))
              go_meet
              case rel => exact ⟨by rw [HD.out], bRE.out, xRE.out⟩
 case rest =>
  obtain ⟨rfl, hbc, hXc⟩ := hcut
  obtain ⟨r1, hr1⟩ : ∃ b, b = decide (RFirst o) := ⟨_, rfl⟩
  have HR := Lib.hid hr1
  rw [← hr1]
  have BC := Lib.hid hbc
  have XC := Lib.hid hXc
  clear hr1 hbc hXc RL RE RO C1 C4 C7 C9
  clear q0 q1 q2 q3 q4 q5 q6 q7 q8 q9
  obtain ⟨q0, q1, q2, q3, q4, q5, q6, q7, q8, q9⟩ := box10 XC.out
  go_wp2_with fail
  go_loopg [3, 62] nk (fun k s i wr => RtK wc o k s i wr)
  case atStart => exact ⟨0, by rw [EQ.out.2.2.2.2.2.1]; simp, rfl, by rw [HR.out, decide_eq_true (kGood_zero _ _), Bool.and_true], Below.refl _ _⟩
  case round =>
   obtain ⟨m, hmk, hi, hs, hbr⟩ := hrel
   rw [← EQ.out.2.2.2.2.2.1] at hmk
   rw [← EQ.out.2.1, ← HR.out] at hs
   subst hi hs
   have HMK := Lib.hid hmk
   have BR := Lib.hid hbr
   have XR := Lib.hid (XC.out.on hbr)
   clear q0 q1 q2 q3 q4 q5 q6 q7 q8 q9
   cases gk with
   | zero =>
    have hmn : m = nk := by omega
    subst hmn
    have hge : ¬ (m : Int) < m := by omega
    obtain ⟨cc, hcc⟩ : ∃ b, b = (r1 && decide (KGood nx o.kids m)) := ⟨_, rfl⟩
    have HCC := Lib.hid hcc
    rw [← hcc]
    have BW1 := Lib.hid (next_below BC.out hbr)
    obtain ⟨q0, q1, q2, q3, q4, q5, q6, q7, q8, q9⟩ := box10 XR.out
    have X1 := XR
    clear hcc hmk hbr
    go_wp2_with fail
    go_loopg [3, 110] nm (fun k s i wq => RtM wr o cc k s i wq)
    case atStart => exact ⟨0, by rw [EQ.out.2.2.2.2.2.2.2.2.2]; simp, rfl, by rw [decide_eq_true (mGood_zero _), Bool.and_true], Below.refl _ _⟩
    case round =>
     obtain ⟨n, hnk, hi, hs, hbq⟩ := hrel
     rw [← EQ.out.2.2.2.2.2.2.2.2.2] at hnk
     subst hi hs
     have HNM := Lib.hid hnk
     have BQ := Lib.hid hbq
     have BQW := Lib.hid (next_below BW1.out hbq)
     have XQ := Lib.hid (X1.out.on hbq)
     clear q0 q1 q2 q3 q4 q5 q6 q7 q8 q9
     cases gk with
     | zero =>
       have hnn : n = nm := by omega
       subst hnn
       have hge2 : ¬ (n : Int) < n := by omega
       obtain ⟨f0, hf0⟩ : ∃ b, b = (cc && decide (MGood o.maps n)) := ⟨_, rfl⟩
       have HOB : Hid (ObOk o ↔ (f0 = true ∧ (zk = 1 ∨ (m = 0 ∧ nx = 0)) ∧ (zk = 2 ∨ nb = 0) ∧ (zk = 3 ∨ zc = 0) ∧ (zk = 3 ∨ zk = 4 ∨ no = 0) ∧ (zk = 4 ∨ (ne = 0 ∧ zr = 0)) ∧ (zk = 5 ∨ n = 0))) := by
        obtain ⟨a1, a2, a3, a4, a5, a6, a7, a8, a9, a10⟩ := EQ.out
        unfold Hid
        rw [hf0, HCC.out, HR.out, a2, a6, a10]
        simp only [Bool.and_eq_true, decide_eq_true_eq]
        exact right_iff a1 rfl a3 a4 rfl a7 a8 a9 rfl
       rw [← hf0]
       obtain ⟨q0, q1, q2, q3, q4, q5, q6, q7, q8, q9⟩ := box10 XQ.out
       clear hf0 hnk hbq
       obtain ⟨g1, hg1⟩ : ∃ b, b = (f0 && decide (zk = 1 ∨ (m = 0 ∧ nx = 0))) := ⟨_, rfl⟩
       have HG1 := Lib.hid hg1
       clear hg1
       go_upto_if 145 with fail
       generalize Value.agg #[.int .i64 zk, .slice Al nl cl, .slice Ak m ck, .int .i64 nx, .slice Ab nb cb, .slice Ao no co, .int .i64 zc, .slice Ae ne ce, .int .i64 zr, .slice Am n cm] = v0
       generalize Value.int .i64 (m : Int) = v62
       generalize Value.int .i64 (n : Int) = v110
       generalize Value.slice Ak m ck = v60
       generalize Value.slice Am n cm = v108
       go_cut [3] from 143 to 157 (fun s3 wx => s3 = .bool g1 ∧ wr = wx)
       case first =>
        by_cases e1 : zk = 1
        case pos =>
          have d1 : (zk == 1) = true := by rw [beq_iff_eq]; exact e1
          have E1 := Lib.hid e1
          clear e1
          have HD : Hid (g1 = f0) := HG1.out.trans (by rw [decide_eq_true (by have := E1.out; omega), Bool.and_true])
          go_wp2_with fail
          go_meet
          case rel => exact ⟨by rw [HD.out], rfl⟩
        have d1 : (zk == 1) = false := by rw [beq_eq_false_iff_ne]; exact e1
        cases f0 with
        | false =>
          have HD : Hid (g1 = false) := HG1.out.trans (Bool.false_and _)
          go_wp2_with fail
          go_meet
          case rel => exact ⟨by rw [HD.out], rfl⟩
        | true =>
          by_cases znk : m = 0
          case neg =>
           have tnk : ((m : Int) == 0) = false := by rw [beq_eq_false_iff_ne]; omega
           have HD : Hid (g1 = false) := HG1.out.trans (by rw [Bool.true_and]; exact decide_eq_false (by omega))
           go_wp2_with fail
           go_meet
           case rel => exact ⟨by rw [HD.out], rfl⟩
          by_cases znx : nx = 0
          case neg =>
           have tnx : (nx == 0) = false := by rw [beq_eq_false_iff_ne]; omega
           have HD : Hid (g1 = false) := HG1.out.trans (by rw [Bool.true_and]; exact decide_eq_false (by omega))
           go_wp2_with fail
           go_meet
           case rel => exact ⟨by rw [HD.out], rfl⟩
          have HA : Hid ((zk = 1 ∨ (m = 0 ∧ nx = 0))) := by unfold Hid; omega
          have wnk : ((m : Int) == 0) = true := by rw [beq_iff_eq]; omega
          have wnx : (nx == 0) = true := by rw [beq_iff_eq]; omega
          clear znk znx
          have HD : Hid (g1 = true) := HG1.out.trans (by rw [Bool.true_and]; exact decide_eq_true HA.out)
          go_wp2_with fail
          go_meet
          case rel => exact ⟨by rw [HD.out], rfl⟩
       case rest =>
        obtain ⟨rfl, hwx⟩ := hcut
        subst hwx
        obtain ⟨g2, hg2⟩ : ∃ b, b = (g1 && decide (zk = 2 ∨ nb = 0)) := ⟨_, rfl⟩
        have HG2 := Lib.hid hg2
        clear hg2
        go_upto_if 160 with fail
        go_cut [3] from 158 to 167 (fun s3 wx => s3 = .bool g2 ∧ wr = wx)
        case first =>
          by_cases e2 : zk = 2
          case pos =>
           have d2 : (zk == 2) = true := by rw [beq_iff_eq]; exact e2
           have E2 := Lib.hid e2
           clear e2
           have HD : Hid (g2 = g1) := HG2.out.trans (by rw [decide_eq_true (by have := E2.out; omega), Bool.and_true])
           go_wp2_with fail
           go_meet
           case rel => exact ⟨by rw [HD.out], rfl⟩
          have d2 : (zk == 2) = false := by rw [beq_eq_false_iff_ne]; exact e2
          cases g1 with
          | false =>
           have HD : Hid (g2 = false) := HG2.out.trans (Bool.false_and _)
           go_wp2_with fail
           go_meet
           case rel => exact ⟨by rw [HD.out], rfl⟩
          | true =>
           by_cases znb : nb = 0
           case neg =>
            have tnb : ((nb : Int) == 0) = false := by rw [beq_eq_false_iff_ne]; omega
            have HD : Hid (g2 = false) := HG2.out.trans (by rw [Bool.true_and]; exact decide_eq_false (by omega))
            go_wp2_with fail
            go_meet
            case rel => exact ⟨by rw [HD.out], rfl⟩
           have HA : Hid ((zk = 2 ∨ nb = 0)) := by unfold Hid; omega
           have wnb : ((nb : Int) == 0) = true := by rw [beq_iff_eq]; omega
           clear znb
           have HD : Hid (g2 = true) := HG2.out.trans (by rw [Bool.true_and]; exact decide_eq_true HA.out)
           go_wp2_with fail
           go_meet
           case rel => exact ⟨by rw [HD.out], rfl⟩
        case rest =>
          obtain ⟨rfl, hwx⟩ := hcut
          subst hwx
          obtain ⟨g3, hg3⟩ : ∃ b, b = (g2 && decide (zk = 3 ∨ zc = 0)) := ⟨_, rfl⟩
          have HG3 := Lib.hid hg3
          clear hg3
          go_upto_if 170 with fail
          go_cut [3] from 168 to 176 (fun s3 wx => s3 = .bool g3 ∧ wr = wx)
          case first =>
           by_cases e3 : zk = 3
           case pos =>
            have d3 : (zk == 3) = true := by rw [beq_iff_eq]; exact e3
            have E3 := Lib.hid e3
            clear e3
            have HD : Hid (g3 = g2) := HG3.out.trans (by rw [decide_eq_true (by have := E3.out; omega), Bool.and_true])
            go_wp2_with fail
            go_meet
            case rel => exact ⟨by rw [HD.out], rfl⟩
           have d3 : (zk == 3) = false := by rw [beq_eq_false_iff_ne]; exact e3
           cases g2 with
           | false =>
            have HD : Hid (g3 = false) := HG3.out.trans (Bool.false_and _)
            go_wp2_with fail
            go_meet
            case rel => exact ⟨by rw [HD.out], rfl⟩
           | true =>
            by_cases zzc : zc = 0
            case neg =>
             have tzc : (zc == 0) = false := by rw [beq_eq_false_iff_ne]; omega
             have HD : Hid (g3 = false) := HG3.out.trans (by rw [Bool.true_and]; exact decide_eq_false (by omega))
             go_wp2_with fail
             go_meet
             case rel => exact ⟨by rw [HD.out], rfl⟩
            have HA : Hid ((zk = 3 ∨ zc = 0)) := by unfold Hid; omega
            have wzc : (zc == 0) = true := by rw [beq_iff_eq]; omega
            clear zzc
            have HD : Hid (g3 = true) := HG3.out.trans (by rw [Bool.true_and]; exact decide_eq_true HA.out)
            go_wp2_with fail
            go_meet
            case rel => exact ⟨by rw [HD.out], rfl⟩
          case rest =>
           obtain ⟨rfl, hwx⟩ := hcut
           subst hwx
           by_cases e3 : zk = 3
           case pos =>
            have d3 : (zk == 3) = true := by rw [beq_iff_eq]; exact e3
            have E3 := Lib.hid e3
            clear e3
            obtain ⟨g4, hg4⟩ : ∃ b, b = (g3 && decide (zk = 3 ∨ zk = 4 ∨ no = 0)) := ⟨_, rfl⟩
            have HG4 := Lib.hid hg4
            clear hg4
            go_upto_if 184 with fail
            go_cut [3] from 177 to 191 (fun s3 wx => s3 = .bool g4 ∧ wr = wx)
            case first =>
             have HD : Hid (g4 = g3) := HG4.out.trans (by rw [decide_eq_true (by have := E3.out; omega), Bool.and_true])
             go_wp2_with fail
             go_meet
             case rel => exact ⟨by rw [HD.out], rfl⟩
            case rest =>
             obtain ⟨rfl, hwx⟩ := hcut
             subst hwx
             obtain ⟨g5, hg5⟩ : ∃ b, b = (g4 && decide (zk = 4 ∨ (ne = 0 ∧ zr = 0))) := ⟨_, rfl⟩
             have HG5 := Lib.hid hg5
             clear hg5
             go_upto_if 194 with fail
             go_cut [3] from 192 to 206 (fun s3 wx => s3 = .bool g5 ∧ wr = wx)
             case first =>
              have e4 : ¬ zk = 4 := by have := E3.out; omega
              have d4 : (zk == 4) = false := by rw [beq_eq_false_iff_ne]; exact e4
              cases g4 with
              | false =>
               have HD : Hid (g5 = false) := HG5.out.trans (Bool.false_and _)
               go_wp2_with fail
               go_meet
               case rel => exact ⟨by rw [HD.out], rfl⟩
              | true =>
               by_cases zne : ne = 0
               case neg =>
                have tne : ((ne : Int) == 0) = false := by rw [beq_eq_false_iff_ne]; omega
                have HD : Hid (g5 = false) := HG5.out.trans (by rw [Bool.true_and]; exact decide_eq_false (by omega))
                go_wp2_with fail
                go_meet
                case rel => exact ⟨by rw [HD.out], rfl⟩
               by_cases zzr : zr = 0
               case neg =>
                have tzr : (zr == 0) = false := by rw [beq_eq_false_iff_ne]; omega
                have HD : Hid (g5 = false) := HG5.out.trans (by rw [Bool.true_and]; exact decide_eq_false (by omega))
                go_wp2_with fail
                go_meet
                case rel => exact ⟨by rw [HD.out], rfl⟩
               have HA : Hid ((zk = 4 ∨ (ne = 0 ∧ zr = 0))) := by unfold Hid; omega
               have wne : ((ne : Int) == 0) = true := by rw [beq_iff_eq]; omega
               have wzr : (zr == 0) = true := by rw [beq_iff_eq]; omega
               clear zne zzr
               have HD : Hid (g5 = true) := HG5.out.trans (by rw [Bool.true_and]; exact decide_eq_true HA.out)
               go_wp2_with fail
               go_meet
               case rel => exact ⟨by rw [HD.out], rfl⟩
             case rest =>
              obtain ⟨rfl, hwx⟩ := hcut
              subst hwx
              obtain ⟨g6, hg6⟩ : ∃ b, b = (g5 && decide (zk = 5 ∨ n = 0)) := ⟨_, rfl⟩
              have HG6 := Lib.hid hg6
              clear hg6
              go_upto_if 209 with fail
              go_cut [3] from 207 to 216 (fun s3 wx => s3 = .bool g6 ∧ wr = wx)
              case first =>
               have e5 : ¬ zk = 5 := by have := E3.out; omega
               have d5 : (zk == 5) = false := by rw [beq_eq_false_iff_ne]; exact e5
               cases g5 with
               | false =>
                have HD : Hid (g6 = false) := HG6.out.trans (Bool.false_and _)
                go_wp2_with fail
                go_meet
                case rel => exact ⟨by rw [HD.out], rfl⟩
               | true =>
                by_cases znm : n = 0
                case neg =>
                 have tnm : ((n : Int) == 0) = false := by rw [beq_eq_false_iff_ne]; omega
                 have HD : Hid (g6 = false) := HG6.out.trans (by rw [Bool.true_and]; exact decide_eq_false (by omega))
                 go_wp2_with fail
                 go_meet
                 case rel => exact ⟨by rw [HD.out], rfl⟩
                have HA : Hid ((zk = 5 ∨ n = 0)) := by unfold Hid; omega
                have wnm : ((n : Int) == 0) = true := by rw [beq_iff_eq]; omega
                clear znm
                have HD : Hid (g6 = true) := HG6.out.trans (by rw [Bool.true_and]; exact decide_eq_true HA.out)
                go_wp2_with fail
                go_meet
                case rel => exact ⟨by rw [HD.out], rfl⟩
              case rest =>
               obtain ⟨rfl, hwx⟩ := hcut
               subst hwx
               have HD : Hid (decide (ObOk o) = g6) := by
                unfold Hid
                rw [HG6.out, HG5.out, HG4.out, HG3.out, HG2.out, HG1.out, Bool.eq_iff_iff]
                simp only [decide_eq_true_eq, Bool.and_eq_true]
                rw [HOB.out]
                exact ⟨fun ⟨a, b, c, d, e, f, g⟩ => ⟨⟨⟨⟨⟨⟨a, b⟩, c⟩, d⟩, e⟩, f⟩, g⟩, fun ⟨⟨⟨⟨⟨⟨a, b⟩, c⟩, d⟩, e⟩, f⟩, g⟩ => ⟨a, b, c, d, e, f, g⟩⟩
               clear EQ HOB
               go_wp2_with fail
               go_ret
               exact ⟨by rw [HD.out] <;> rfl, BQW.out⟩
           have d3 : (zk == 3) = false := by rw [beq_eq_false_iff_ne]; exact e3
           by_cases e4 : zk = 4
           case pos =>
            have d4 : (zk == 4) = true := by rw [beq_iff_eq]; exact e4
            have E4 := Lib.hid e4
            clear e4
            obtain ⟨g4, hg4⟩ : ∃ b, b = (g3 && decide (zk = 3 ∨ zk = 4 ∨ no = 0)) := ⟨_, rfl⟩
            have HG4 := Lib.hid hg4
            clear hg4
            go_upto_if 184 with fail
            rw [show (zk != 3 && zk != 4) = false from by have e := E4.out; subst e; rfl]
            go_cut [3] from 177 to 191 (fun s3 wx => s3 = .bool g4 ∧ wr = wx)
            case first =>
             have HD : Hid (g4 = g3) := HG4.out.trans (by rw [decide_eq_true (by have := E4.out; omega), Bool.and_true])
             go_wp2_with fail
             go_meet
             case rel => exact ⟨by rw [HD.out], rfl⟩
            case rest =>
             obtain ⟨rfl, hwx⟩ := hcut
             subst hwx
             obtain ⟨g5, hg5⟩ : ∃ b, b = (g4 && decide (zk = 4 ∨ (ne = 0 ∧ zr = 0))) := ⟨_, rfl⟩
             have HG5 := Lib.hid hg5
             clear hg5
             go_upto_if 194 with fail
             go_cut [3] from 192 to 206 (fun s3 wx => s3 = .bool g5 ∧ wr = wx)
             case first =>
              have HD : Hid (g5 = g4) := HG5.out.trans (by rw [decide_eq_true (by have := E4.out; omega), Bool.and_true])
              go_wp2_with fail
              go_meet
              case rel => exact ⟨by rw [HD.out], rfl⟩
             case rest =>
              obtain ⟨rfl, hwx⟩ := hcut
              subst hwx
              obtain ⟨g6, hg6⟩ : ∃ b, b = (g5 && decide (zk = 5 ∨ n = 0)) := ⟨_, rfl⟩
              have HG6 := Lib.hid hg6
              clear hg6
              go_upto_if 209 with fail
              go_cut [3] from 207 to 216 (fun s3 wx => s3 = .bool g6 ∧ wr = wx)
              case first =>
               have e5 : ¬ zk = 5 := by have := E4.out; omega
               have d5 : (zk == 5) = false := by rw [beq_eq_false_iff_ne]; exact e5
               cases g5 with
               | false =>
                have HD : Hid (g6 = false) := HG6.out.trans (Bool.false_and _)
                go_wp2_with fail
                go_meet
                case rel => exact ⟨by rw [HD.out], rfl⟩
               | true =>
                by_cases znm : n = 0
                case neg =>
                 have tnm : ((n : Int) == 0) = false := by rw [beq_eq_false_iff_ne]; omega
                 have HD : Hid (g6 = false) := HG6.out.trans (by rw [Bool.true_and]; exact decide_eq_false (by omega))
                 go_wp2_with fail
                 go_meet
                 case rel => exact ⟨by rw [HD.out], rfl⟩
                have HA : Hid ((zk = 5 ∨ n = 0)) := by unfold Hid; omega
                have wnm : ((n : Int) == 0) = true := by rw [beq_iff_eq]; omega
                clear znm
                have HD : Hid (g6 = true) := HG6.out.trans (by rw [Bool.true_and]; exact decide_eq_true HA.out)
                go_wp2_with fail
                go_meet
                case rel => exact ⟨by rw [HD.out], rfl⟩
              case rest =>
               obtain ⟨rfl, hwx⟩ := hcut
               subst hwx
               have HD : Hid (decide (ObOk o) = g6) := by
                unfold Hid
                rw [HG6.out, HG5.out, HG4.out, HG3.out, HG2.out, HG1.out, Bool.eq_iff_iff]
                simp only [decide_eq_true_eq, Bool.and_eq_true]
                rw [HOB.out]
                exact ⟨fun ⟨a, b, c, d, e, f, g⟩ => ⟨⟨⟨⟨⟨⟨a, b⟩, c⟩, d⟩, e⟩, f⟩, g⟩, fun ⟨⟨⟨⟨⟨⟨a, b⟩, c⟩, d⟩, e⟩, f⟩, g⟩ => ⟨a, b, c, d, e, f, g⟩⟩
               clear EQ HOB
               go_wp2_with fail
               go_ret
               exact ⟨by rw [HD.out] <;> rfl, BQW.out⟩
           have d4 : (zk == 4) = false := by rw [beq_eq_false_iff_ne]; exact e4
           obtain ⟨g4, hg4⟩ : ∃ b, b = (g3 && decide (zk = 3 ∨ zk = 4 ∨ no = 0)) := ⟨_, rfl⟩
           have HG4 := Lib.hid hg4
           clear hg4
           go_upto_if 184 with fail
           rw [show (zk != 3 && zk != 4) = true from by unfold bne; rw [d3, d4]; rfl]
           go_cut [3] from 177 to 191 (fun s3 wx => s3 = .bool g4 ∧ wr = wx)
           case first =>
            have d4 : (zk == 4) = false := by rw [beq_eq_false_iff_ne]; exact e4
            cases g3 with
            | false =>
             have HD : Hid (g4 = false) := HG4.out.trans (Bool.false_and _)
             go_wp2_with fail
             go_meet
             case rel => exact ⟨by rw [HD.out], rfl⟩
            | true =>
             by_cases zno : no = 0
             case neg =>
              have tno : ((no : Int) == 0) = false := by rw [beq_eq_false_iff_ne]; omega
              have HD : Hid (g4 = false) := HG4.out.trans (by rw [Bool.true_and]; exact decide_eq_false (by omega))
              go_wp2_with fail
              go_meet
              case rel => exact ⟨by rw [HD.out], rfl⟩
             have HA : Hid ((zk = 3 ∨ zk = 4 ∨ no = 0)) := by unfold Hid; omega
             have wno : ((no : Int) == 0) = true := by rw [beq_iff_eq]; omega
             clear zno
             have HD : Hid (g4 = true) := HG4.out.trans (by rw [Bool.true_and]; exact decide_eq_true HA.out)
             go_wp2_with fail
             go_meet
             case rel => exact ⟨by rw [HD.out], rfl⟩
           case rest =>
            obtain ⟨rfl, hwx⟩ := hcut
            subst hwx
            obtain ⟨g5, hg5⟩ : ∃ b, b = (g4 && decide (zk = 4 ∨ (ne = 0 ∧ zr = 0))) := ⟨_, rfl⟩
            have HG5 := Lib.hid hg5
            clear hg5
            go_upto_if 194 with fail
            go_cut [3] from 192 to 206 (fun s3 wx => s3 = .bool g5 ∧ wr = wx)
            case first =>
             have d4 : (zk == 4) = false := by rw [beq_eq_false_iff_ne]; exact e4
             cases g4 with
             | false =>
              have HD : Hid (g5 = false) := HG5.out.trans (Bool.false_and _)
              go_wp2_with fail
              go_meet
              case rel => exact ⟨by rw [HD.out], rfl⟩
             | true =>
              by_cases zne : ne = 0
              case neg =>
               have tne : ((ne : Int) == 0) = false := by rw [beq_eq_false_iff_ne]; omega
               have HD : Hid (g5 = false) := HG5.out.trans (by rw [Bool.true_and]; exact decide_eq_false (by omega))
               go_wp2_with fail
               go_meet
               case rel => exact ⟨by rw [HD.out], rfl⟩
              by_cases zzr : zr = 0
              case neg =>
               have tzr : (zr == 0) = false := by rw [beq_eq_false_iff_ne]; omega
               have HD : Hid (g5 = false) := HG5.out.trans (by rw [Bool.true_and]; exact decide_eq_false (by omega))
               go_wp2_with fail
               go_meet
               case rel => exact ⟨by rw [HD.out], rfl⟩
              have HA : Hid ((zk = 4 ∨ (ne = 0 ∧ zr = 0))) := by unfold Hid; omega
              have wne : ((ne : Int) == 0) = true := by rw [beq_iff_eq]; omega
              have wzr : (zr == 0) = true := by rw [beq_iff_eq]; omega
              clear zne zzr
              have HD : Hid (g5 = true) := HG5.out.trans (by rw [Bool.true_and]; exact decide_eq_true HA.out)
              go_wp2_with fail
              go_meet
              case rel => exact ⟨by rw [HD.out], rfl⟩
            case rest =>
             obtain ⟨rfl, hwx⟩ := hcut
             subst hwx
             obtain ⟨g6, hg6⟩ : ∃ b, b = (g5 && decide (zk = 5 ∨ n = 0)) := ⟨_, rfl⟩
             have HG6 := Lib.hid hg6
             clear hg6
             go_upto_if 209 with fail
             go_cut [3] from 207 to 216 (fun s3 wx => s3 = .bool g6 ∧ wr = wx)
             case first =>
              by_cases e5 : zk = 5
              case pos =>
               have d5 : (zk == 5) = true := by rw [beq_iff_eq]; exact e5
               have E5 := Lib.hid e5
               clear e5
               have HD : Hid (g6 = g5) := HG6.out.trans (by rw [decide_eq_true (by have := E5.out; omega), Bool.and_true])
               go_wp2_with fail
               go_meet
               case rel => exact ⟨by rw [HD.out], rfl⟩
              have d5 : (zk == 5) = false := by rw [beq_eq_false_iff_ne]; exact e5
              cases g5 with
              | false =>
               have HD : Hid (g6 = false) := HG6.out.trans (Bool.false_and _)
               go_wp2_with fail
               go_meet
               case rel => exact ⟨by rw [HD.out], rfl⟩
              | true =>
               by_cases znm : n = 0
               case neg =>
                have tnm : ((n : Int) == 0) = false := by rw [beq_eq_false_iff_ne]; omega
                have HD : Hid (g6 = false) := HG6.out.trans (by rw [Bool.true_and]; exact decide_eq_false (by omega))
                go_wp2_with fail
                go_meet
                case rel => exact ⟨by rw [HD.out], rfl⟩
               have HA : Hid ((zk = 5 ∨ n = 0)) := by unfold Hid; omega
               have wnm : ((n : Int) == 0) = true := by rw [beq_iff_eq]; omega
               clear znm
               have HD : Hid (g6 = true) := HG6.out.trans (by rw [Bool.true_and]; exact decide_eq_true HA.out)
               go_wp2_with fail
               go_meet
               case rel => exact ⟨by rw [HD.out], rfl⟩
             case rest =>
              obtain ⟨rfl, hwx⟩ := hcut
              subst hwx
              have HD : Hid (decide (ObOk o) = g6) := by
               unfold Hid
               rw [HG6.out, HG5.out, HG4.out, HG3.out, HG2.out, HG1.out, Bool.eq_iff_iff]
               simp only [decide_eq_true_eq, Bool.and_eq_true]
               rw [HOB.out]
               exact ⟨fun ⟨a, b, c, d, e, f, g⟩ => ⟨⟨⟨⟨⟨⟨a, b⟩, c⟩, d⟩, e⟩, f⟩, g⟩, fun ⟨⟨⟨⟨⟨⟨a, b⟩, c⟩, d⟩, e⟩, f⟩, g⟩ => ⟨a, b, c, d, e, f, g⟩⟩
              clear EQ HOB
              go_wp2_with fail
              go_ret
              exact ⟨by rw [HD.out] <;> rfl, BQW.out⟩
     | succ j =>
       have hn : n < nm := by omega
       have hnlt : (n : Int) < nm := by omega
       obtain ⟨x, hx⟩ : ∃ x, o.maps[n]? = some x := ⟨_, List.getElem?_eq_getElem (by rw [← EQ.out.2.2.2.2.2.2.2.2.2]; exact hn)⟩
       obtain ⟨b, off, rfl, -, hlt, hcell⟩ := HSM.out (by have := (List.getElem?_eq_some_iff.1 hx).1; omega)
       obtain ⟨p0, ⟨sv, p1, hsv⟩, p2⟩ := hcell n x hx
       have c0 := (BQW.out.cell (p := ⟨b, off + n * 3, none⟩) hlt).trans p0
       have c1 := (BQW.out.cell (p := ⟨b, off + n * 3 + 1, none⟩) hlt).trans p1
       have c2 := (BQW.out.cell (p := ⟨b, off + n * 3 + 2, none⟩) hlt).trans p2
       obtain ⟨As, cs, rfl, -, -, hss⟩ := hsv
       have HST : Hid (decide (MGood o.maps (n + 1)) = (decide (MGood o.maps n) && decide (MNext o.maps n x))) := by
        unfold Hid
        rw [Bool.eq_iff_iff]
        simp only [decide_eq_true_eq, Bool.and_eq_true]
        exact mGood_succ hx
       obtain ⟨za, hza⟩ : ∃ z, z = x.1 := ⟨_, rfl⟩
       obtain ⟨zp, hzp⟩ : ∃ z, z = x.2.1 := ⟨_, rfl⟩
       obtain ⟨fl, hfl⟩ : ∃ z, z = x.2.2 := ⟨_, rfl⟩
       rw [← hza] at c0
       rw [← hzp] at c1 hss
       rw [← hfl] at c2
       have hwm := HW.out.maps.2 x (List.mem_of_getElem? hx)
       rw [← hzp] at hwm
       have HKO : Hid (MapOk x ↔ (0 ≤ za ∧ za ≤ 1048576) ∧ Pa.PathOk zp) := by rw [Hid, hza, hzp]; exact Iff.rfl
       have HZA : Hid (za = x.1) := hza
       obtain ⟨np, hnp⟩ : ∃ n, n = zp.length := ⟨_, rfl⟩
       rw [← hnp] at c1
       obtain ⟨W0, hW0⟩ : ∃ W, W = wr.alloc (.cells #[.int .i64 za, .slice As np cs, .bool fl] 45) := ⟨_, rfl⟩
       obtain ⟨by0, hby⟩ : ∃ y, y = wr.heap.size := ⟨_, rfl⟩
       have hbn : Below wr.heap.size wr W0 := by rw [hW0]; exact (Below.refl _ _).alloc (Nat.le_refl _) _
       have r0 : W0.cell? ⟨by0, 0, none⟩ = some (.int .i64 za) := by rw [hW0, hby]; simp
       have r1' : W0.cell? ⟨by0, 1, none⟩ = some (.slice As np cs) := by rw [hW0, hby]; simp
       have g0 := cell_regrown r0
       have g1 := cell_regrown r1'
       obtain ⟨-, -, -, -, -, -, -, -, -, k9⟩ := box10 (XQ.out.on hbn)
       have gk9 := cell_regrown k9
       have BN := Lib.hid (next_below BQ.out hbn)
       have hBN := next_below BQW.out hbn
       have D3 := Lib.hid (quietB (w := W0) fun W _ => refIn_ret za 0 1048576 W)
       have D4 : Hid (∀ d os, Calls Tryz.prog 67 #[.slice As np cs] (Sort.grow (redrawn W0 d) os) fun e w' => e = .returned (.bool (decide (Pa.PathOk zp))) ∧ ∃ r : Regrown, w' = Sort.grow (redrawn W0 r.d) r.os) := quietB fun W hW => by
        rw [hnp]
        exact (Pa.refRight_any (c := cs) (Pa.zs_on hss.zs (next_below hBN hW)) (by have := hwm.2.1; omega)).mono fun _ _ h => ⟨h.1, h.2 ▸ Below.refl _ _⟩
       have HPV : Hid (∀ i y, n = i + 1 → o.maps[i]? = some y → W0.cell? ⟨b, off + i * 3, none⟩ = some (.int .i64 y.1)) := fun i y _ hy => (hBN.cell (p := ⟨b, off + i * 3, none⟩) hlt).trans (hcell i y hy).1
       clear hnk hbq hx p0 p1 p2 hcell hza hzp hfl hbn r0 r1' k9 hBN hss hwm hnp
       obtain ⟨mg, hmg⟩ : ∃ b, b = decide (MGood o.maps n) := ⟨_, rfl⟩
       rw [← hmg] at HST
       rw [← hmg]
       clear hmg
       cases hrk : (cc && mg) with
       | false =>
        have HRK := Lib.hid hrk
        clear hrk
        go_wp2_with fail
        rw [← hW0, ← hby]
        clear hW0 hby c0 c1 c2
        refine wp_region_quiet_below (by kernel_rfl) (by kernel_rfl) ?_
        repeat (go_big_quiet_step (first | with_reducible exact D3.out _ _ | with_reducible exact D4.out _ _))
        refine wpQuiet_nil ?_
        rintro _ ⟨⟨dq, osq⟩, rfl⟩
        have B9 := Lib.hid (next_below BN.out (below_regrown W0 dq osq))
        clear g0 g1 gk9
        go_wp2_with fail
        go_roundg j
        case measure => omega
        case rel => exact ⟨n + 1, by have := HNM.out; have := EQ.out.2.2.2.2.2.2.2.2.2; omega, by go_num, by rw [HST.out, ← Bool.and_assoc, HRK.out]; rfl, B9.out⟩
       | true =>
        have HRK := Lib.hid hrk
        clear hrk
        by_cases w3 : 0 ≤ za ∧ za ≤ 1048576
        case neg =>
          have HNO : Hid (decide (MNext o.maps n x) = false) := decide_eq_false fun h => w3 (HKO.out.1 h.1).1
          rw [decide_eq_false w3] at D3
          clear w3
          go_wp2_with fail
          rw [← hW0, ← hby]
          clear hW0 hby c0 c1 c2
          refine wp_region_quiet_below (by kernel_rfl) (by kernel_rfl) ?_
          repeat (go_big_quiet_step (first | with_reducible exact D3.out _ _ | with_reducible exact D4.out _ _))
          refine wpQuiet_nil ?_
          rintro _ ⟨⟨dq, osq⟩, rfl⟩
          have B9 := Lib.hid (next_below BN.out (below_regrown W0 dq osq))
          clear g0 g1 gk9
          go_wp2_with fail
          go_roundg j
          case measure => omega
          case rel => exact ⟨n + 1, by have := HNM.out; have := EQ.out.2.2.2.2.2.2.2.2.2; omega, by go_num, by rw [HST.out, ← Bool.and_assoc, HRK.out, HNO.out]; rfl, B9.out⟩
        rw [decide_eq_true w3] at D3
        by_cases w4 : Pa.PathOk zp
        case neg =>
          have HNO : Hid (decide (MNext o.maps n x) = false) := decide_eq_false fun h => w4 (HKO.out.1 h.1).2
          rw [decide_eq_false w4] at D4
          clear w3 w4
          go_wp2_with fail
          rw [← hW0, ← hby]
          clear hW0 hby c0 c1 c2
          refine wp_region_quiet_below (by kernel_rfl) (by kernel_rfl) ?_
          repeat (go_big_quiet_step (first | with_reducible exact D3.out _ _ | with_reducible exact D4.out _ _))
          refine wpQuiet_nil ?_
          rintro _ ⟨⟨dq, osq⟩, rfl⟩
          have B9 := Lib.hid (next_below BN.out (below_regrown W0 dq osq))
          clear g0 g1 gk9
          go_wp2_with fail
          go_roundg j
          case measure => omega
          case rel => exact ⟨n + 1, by have := HNM.out; have := EQ.out.2.2.2.2.2.2.2.2.2; omega, by go_num, by rw [HST.out, ← Bool.and_assoc, HRK.out, HNO.out]; rfl, B9.out⟩
        rw [decide_eq_true w4] at D4
        have HOK : Hid (MapOk x) := HKO.out.2 ⟨w3, w4⟩
        clear w3 w4
        by_cases hm0 : n = 0
        case pos =>
          subst hm0
          simp only [Nat.zero_mul, Nat.add_zero] at c0 c1 c2
          have HNO : Hid (decide (MNext o.maps 0 x) = true) := decide_eq_true ⟨HOK.out, fun y h => absurd h (by omega)⟩
          go_wp2_with fail
          rw [← hW0, ← hby]
          clear hW0 hby c0 c1 c2
          refine wp_region_quiet_below (by kernel_rfl) (by kernel_rfl) ?_
          repeat (go_big_quiet_step (first | with_reducible exact D3.out _ _ | with_reducible exact D4.out _ _))
          refine wpQuiet_nil ?_
          rintro _ ⟨⟨dq, osq⟩, rfl⟩
          have B9 := Lib.hid (next_below BN.out (below_regrown W0 dq osq))
          clear g0 g1 gk9
          go_wp2_with fail
          go_roundg j
          case measure => omega
          case rel => exact ⟨0 + 1, by have := HNM.out; have := EQ.out.2.2.2.2.2.2.2.2.2; omega, by go_num, by rw [HST.out, ← Bool.and_assoc, HRK.out, HNO.out]; rfl, B9.out⟩
        obtain ⟨i, hk⟩ : ∃ i, n = i + 1 := ⟨n - 1, by omega⟩
        obtain ⟨y, hy⟩ : ∃ y, o.maps[i]? = some y := ⟨_, List.getElem?_eq_getElem (by rw [← EQ.out.2.2.2.2.2.2.2.2.2]; omega)⟩
        have py := HPV.out i y hk hy
        have gp := cell_regrown py
        have hk1 : IntKind.i64.wrap ((n : Int) - 1) = (i : Int) := by rw [IntKind.wrap_i64]; omega
        have hk2 : ¬ ((i : Int) < 0) := by omega
        have hk3 : (i : Int) < (nm : Int) := by omega
        have hk4 : i < nm := by omega
        have hm1 : ((n : Int) == 0) = false := by rw [beq_eq_false_iff_ne]; omega
        have HY := Lib.hid hy
        have HKM := Lib.hid hk
        obtain ⟨zy, hzy⟩ : ∃ z, z = y.1 := ⟨_, rfl⟩
        rw [← hzy] at gp
        have HZY := Lib.hid hzy
        clear hy py hzy hk hm0
        by_cases w5 : zy < za
        · have HNO : Hid (decide (MNext o.maps n x) = true) := decide_eq_true ⟨HOK.out, fun y' _ h => by
           rw [HKM.out, Nat.add_sub_cancel, HY.out] at h
           injection h with h
           rw [← h, ← HZY.out, ← HZA.out]; exact w5⟩
          go_wp2_with fail
          rw [← hW0, ← hby]
          clear hW0 hby c0 c1 c2
          refine wp_region_quiet_below (by kernel_rfl) (by kernel_rfl) ?_
          repeat (go_big_quiet_step (first | with_reducible exact D3.out _ _ | with_reducible exact D4.out _ _))
          refine wpQuiet_nil ?_
          rintro _ ⟨⟨dq, osq⟩, rfl⟩
          have B9 := Lib.hid (next_below BN.out (below_regrown W0 dq osq))
          clear g0 g1 gk9
          go_wp2_with fail
          go_roundg j
          case measure => omega
          case rel => exact ⟨n + 1, by have := HNM.out; have := EQ.out.2.2.2.2.2.2.2.2.2; omega, by go_num, by rw [HST.out, ← Bool.and_assoc, HRK.out, HNO.out]; rfl, B9.out⟩
        · have HNO : Hid (decide (MNext o.maps n x) = false) := decide_eq_false fun h => w5 (by
           have := h.2 y (by rw [HKM.out]; omega) (by rw [HKM.out, Nat.add_sub_cancel]; exact HY.out)
           rw [HZY.out, HZA.out]; exact this)
          have d1 : decide (zy < za) = false := decide_eq_false w5
          go_wp2_with fail
          rw [← hW0, ← hby]
          clear hW0 hby c0 c1 c2
          refine wp_region_quiet_below (by kernel_rfl) (by kernel_rfl) ?_
          repeat (go_big_quiet_step (first | with_reducible exact D3.out _ _ | with_reducible exact D4.out _ _))
          refine wpQuiet_nil ?_
          rintro _ ⟨⟨dq, osq⟩, rfl⟩
          have B9 := Lib.hid (next_below BN.out (below_regrown W0 dq osq))
          clear g0 g1 gk9
          go_wp2_with fail
          go_roundg j
          case measure => omega
          case rel => exact ⟨n + 1, by have := HNM.out; have := EQ.out.2.2.2.2.2.2.2.2.2; omega, by go_num, by rw [HST.out, ← Bool.and_assoc, HRK.out, HNO.out]; rfl, B9.out⟩
   | succ j =>
    have hm : m < nk := by omega
    have hmlt : (m : Int) < nk := by omega
    obtain ⟨x, hx⟩ : ∃ x, o.kids[m]? = some x := ⟨_, List.getElem?_eq_getElem (by rw [← EQ.out.2.2.2.2.2.1]; exact hm)⟩
    obtain ⟨p0, p1, p2⟩ := kidCells_at hx
    obtain ⟨b, off, rfl, -, hlt, hcell⟩ := HSK.out (by have := (List.getElem?_eq_some_iff.1 p0).1; omega)
    have hbw := next_below BC.out hbr
    have c0 := (hbw.cell (p := ⟨b, off + m * 3, none⟩) hlt).trans (hcell _ _ p0)
    have c1 := (hbw.cell (p := ⟨b, off + (m * 3 + 1), none⟩) hlt).trans (hcell _ _ p1)
    have c2 := (hbw.cell (p := ⟨b, off + (m * 3 + 2), none⟩) hlt).trans (hcell _ _ p2)
    rw [← Nat.add_assoc] at c1 c2
    have HST : Hid (decide (KGood nx o.kids (m + 1)) = (decide (KGood nx o.kids m) && decide (KNext nx o.kids m x))) := by
     unfold Hid
     rw [Bool.eq_iff_iff]
     simp only [decide_eq_true_eq, Bool.and_eq_true]
     exact kGood_succ hx
    obtain ⟨za, hza⟩ : ∃ z, z = x.1 := ⟨_, rfl⟩
    obtain ⟨zb, hzb⟩ : ∃ z, z = x.2.1 := ⟨_, rfl⟩
    obtain ⟨zd, hzd⟩ : ∃ z, z = x.2.2 := ⟨_, rfl⟩
    rw [← hza] at c0
    rw [← hzb] at c1
    rw [← hzd] at c2
    have HKO : Hid (KidOk nx x ↔ (0 ≤ za ∧ za < nx) ∧ (1 ≤ zb ∧ zb ≤ 5) ∧ 0 ≤ zd ∧ zd ≤ 1048576) := by rw [Hid, hza, hzb, hzd]; exact Iff.rfl
    have HZA : Hid (za = x.1) := hza
    obtain ⟨W0, hW0⟩ : ∃ W, W = wr.alloc (.cells #[.int .i64 za, .int .i64 zb, .int .i64 zd] 85) := ⟨_, rfl⟩
    obtain ⟨by0, hby⟩ : ∃ y, y = wr.heap.size := ⟨_, rfl⟩
    have hbn : Below wr.heap.size wr W0 := by rw [hW0]; exact (Below.refl _ _).alloc (Nat.le_refl _) _
    have r0 : W0.cell? ⟨by0, 0, none⟩ = some (.int .i64 za) := by rw [hW0, hby]; simp
    have r1' : W0.cell? ⟨by0, 1, none⟩ = some (.int .i64 zb) := by rw [hW0, hby]; simp
    have r2 : W0.cell? ⟨by0, 2, none⟩ = some (.int .i64 zd) := by rw [hW0, hby]; simp
    have g0 := cell_regrown r0
    have g1 := cell_regrown r1'
    have g2 := cell_regrown r2
    obtain ⟨-, -, k2, k3, -, -, -, -, -, -⟩ := box10 (XR.out.on hbn)
    have gk2 := cell_regrown k2
    have gk3 := cell_regrown k3
    have BN := Lib.hid (next_below BR.out hbn)
    have hBN := next_below hbw hbn
    have D3 := Lib.hid (quietB (w := W0) fun W _ => refIn_ret zb 1 5 W)
    have D4 := Lib.hid (quietB (w := W0) fun W _ => refIn_ret zd 0 1048576 W)
    have HPV : Hid (∀ i y, m = i + 1 → o.kids[i]? = some y → W0.cell? ⟨b, off + i * 3, none⟩ = some (.int .i64 y.1)) := fun i y _ hy => (hBN.cell (p := ⟨b, off + i * 3, none⟩) hlt).trans (hcell _ _ (kidCells_at hy).1)
    have HX := Lib.hid hx
    clear hmk hbr hx p0 p1 p2 hcell hbw hza hzb hzd hbn r0 r1' r2 k2 k3 hBN
    obtain ⟨kg, hkg⟩ : ∃ b, b = decide (KGood nx o.kids m) := ⟨_, rfl⟩
    rw [← hkg] at HST
    rw [← hkg]
    clear hkg
    cases hrk : (r1 && kg) with
    | false =>
     have HRK := Lib.hid hrk
     clear hrk
     go_wp2_with fail
     rw [← hW0, ← hby]
     clear hW0 hby c0 c1 c2
     refine wp_region_quiet_below (by kernel_rfl) (by kernel_rfl) ?_
     repeat (go_big_quiet_step (first | with_reducible exact D3.out _ _ | with_reducible exact D4.out _ _))
     refine wpQuiet_nil ?_
     rintro _ ⟨⟨dq, osq⟩, rfl⟩
     have B9 := Lib.hid (next_below BN.out (below_regrown W0 dq osq))
     clear g0 g1 g2 gk2 gk3
     go_wp2_with fail
     go_roundg j
     case measure => omega
     case rel => exact ⟨m + 1, by have := HMK.out; have := EQ.out.2.2.2.2.2.1; omega, by go_num, by rw [← EQ.out.2.1, HST.out, ← HR.out, ← Bool.and_assoc, HRK.out]; rfl, B9.out⟩
    | true =>
     have HRK := Lib.hid hrk
     clear hrk
     by_cases w1 : 0 ≤ za
     case neg =>
       have HNO : Hid (decide (KNext nx o.kids m x) = false) := decide_eq_false fun h => w1 (HKO.out.1 h.1).1.1
       have d1 : decide (0 ≤ za) = false := decide_eq_false w1
       go_wp2_with fail
       rw [← hW0, ← hby]
       clear hW0 hby c0 c1 c2
       refine wp_region_quiet_below (by kernel_rfl) (by kernel_rfl) ?_
       repeat (go_big_quiet_step (first | with_reducible exact D3.out _ _ | with_reducible exact D4.out _ _))
       refine wpQuiet_nil ?_
       rintro _ ⟨⟨dq, osq⟩, rfl⟩
       have B9 := Lib.hid (next_below BN.out (below_regrown W0 dq osq))
       clear g0 g1 g2 gk2 gk3
       go_wp2_with fail
       go_roundg j
       case measure => omega
       case rel => exact ⟨m + 1, by have := HMK.out; have := EQ.out.2.2.2.2.2.1; omega, by go_num, by rw [← EQ.out.2.1, HST.out, ← HR.out, ← Bool.and_assoc, HRK.out, HNO.out]; rfl, B9.out⟩
     by_cases w2 : za < nx
     case neg =>
       have HNO : Hid (decide (KNext nx o.kids m x) = false) := decide_eq_false fun h => w2 (HKO.out.1 h.1).1.2
       have d1 : decide (za < nx) = false := decide_eq_false w2
       go_wp2_with fail
       rw [← hW0, ← hby]
       clear hW0 hby c0 c1 c2
       refine wp_region_quiet_below (by kernel_rfl) (by kernel_rfl) ?_
       repeat (go_big_quiet_step (first | with_reducible exact D3.out _ _ | with_reducible exact D4.out _ _))
       refine wpQuiet_nil ?_
       rintro _ ⟨⟨dq, osq⟩, rfl⟩
       have B9 := Lib.hid (next_below BN.out (below_regrown W0 dq osq))
       clear g0 g1 g2 gk2 gk3
       go_wp2_with fail
       go_roundg j
       case measure => omega
       case rel => exact ⟨m + 1, by have := HMK.out; have := EQ.out.2.2.2.2.2.1; omega, by go_num, by rw [← EQ.out.2.1, HST.out, ← HR.out, ← Bool.and_assoc, HRK.out, HNO.out]; rfl, B9.out⟩
     by_cases w3 : 1 ≤ zb ∧ zb ≤ 5
     case neg =>
       have HNO : Hid (decide (KNext nx o.kids m x) = false) := decide_eq_false fun h => w3 (HKO.out.1 h.1).2.1
       rw [decide_eq_false w3] at D3
       clear w3
       go_wp2_with fail
       rw [← hW0, ← hby]
       clear hW0 hby c0 c1 c2
       refine wp_region_quiet_below (by kernel_rfl) (by kernel_rfl) ?_
       repeat (go_big_quiet_step (first | with_reducible exact D3.out _ _ | with_reducible exact D4.out _ _))
       refine wpQuiet_nil ?_
       rintro _ ⟨⟨dq, osq⟩, rfl⟩
       have B9 := Lib.hid (next_below BN.out (below_regrown W0 dq osq))
       clear g0 g1 g2 gk2 gk3
       go_wp2_with fail
       go_roundg j
       case measure => omega
       case rel => exact ⟨m + 1, by have := HMK.out; have := EQ.out.2.2.2.2.2.1; omega, by go_num, by rw [← EQ.out.2.1, HST.out, ← HR.out, ← Bool.and_assoc, HRK.out, HNO.out]; rfl, B9.out⟩
     rw [decide_eq_true w3] at D3
     by_cases w4 : 0 ≤ zd ∧ zd ≤ 1048576
     case neg =>
       have HNO : Hid (decide (KNext nx o.kids m x) = false) := decide_eq_false fun h => w4 (HKO.out.1 h.1).2.2
       rw [decide_eq_false w4] at D4
       clear w3 w4
       go_wp2_with fail
       rw [← hW0, ← hby]
       clear hW0 hby c0 c1 c2
       refine wp_region_quiet_below (by kernel_rfl) (by kernel_rfl) ?_
       repeat (go_big_quiet_step (first | with_reducible exact D3.out _ _ | with_reducible exact D4.out _ _))
       refine wpQuiet_nil ?_
       rintro _ ⟨⟨dq, osq⟩, rfl⟩
       have B9 := Lib.hid (next_below BN.out (below_regrown W0 dq osq))
       clear g0 g1 g2 gk2 gk3
       go_wp2_with fail
       go_roundg j
       case measure => omega
       case rel => exact ⟨m + 1, by have := HMK.out; have := EQ.out.2.2.2.2.2.1; omega, by go_num, by rw [← EQ.out.2.1, HST.out, ← HR.out, ← Bool.and_assoc, HRK.out, HNO.out]; rfl, B9.out⟩
     rw [decide_eq_true w4] at D4
     have HOK : Hid (KidOk nx x) := HKO.out.2 ⟨⟨w1, w2⟩, w3, w4⟩
     clear w3 w4
     by_cases hm0 : m = 0
     case pos =>
       subst hm0
       simp only [Nat.zero_mul, Nat.add_zero] at c0 c1 c2
       have HNO : Hid (decide (KNext nx o.kids 0 x) = true) := decide_eq_true ⟨HOK.out, fun y h => absurd h (by omega)⟩
       go_wp2_with fail
       rw [← hW0, ← hby]
       clear hW0 hby c0 c1 c2
       refine wp_region_quiet_below (by kernel_rfl) (by kernel_rfl) ?_
       repeat (go_big_quiet_step (first | with_reducible exact D3.out _ _ | with_reducible exact D4.out _ _))
       refine wpQuiet_nil ?_
       rintro _ ⟨⟨dq, osq⟩, rfl⟩
       have B9 := Lib.hid (next_below BN.out (below_regrown W0 dq osq))
       clear g0 g1 g2 gk2 gk3
       go_wp2_with fail
       go_roundg j
       case measure => omega
       case rel => exact ⟨0 + 1, by have := HMK.out; have := EQ.out.2.2.2.2.2.1; omega, by go_num, by rw [← EQ.out.2.1, HST.out, ← HR.out, ← Bool.and_assoc, HRK.out, HNO.out]; rfl, B9.out⟩
     obtain ⟨i, hk⟩ : ∃ i, m = i + 1 := ⟨m - 1, by omega⟩
     obtain ⟨y, hy⟩ : ∃ y, o.kids[i]? = some y := ⟨_, List.getElem?_eq_getElem (by rw [← EQ.out.2.2.2.2.2.1]; omega)⟩
     have py := HPV.out i y hk hy
     have gp := cell_regrown py
     have hk1 : IntKind.i64.wrap ((m : Int) - 1) = (i : Int) := by rw [IntKind.wrap_i64]; omega
     have hk2 : ¬ ((i : Int) < 0) := by omega
     have hk3 : (i : Int) < (nk : Int) := by omega
     have hk4 : i < nk := by omega
     have hm1 : ((m : Int) == 0) = false := by rw [beq_eq_false_iff_ne]; omega
     have HY := Lib.hid hy
     have HKM := Lib.hid hk
     obtain ⟨zy, hzy⟩ : ∃ z, z = y.1 := ⟨_, rfl⟩
     rw [← hzy] at gp
     have HZY := Lib.hid hzy
     clear hy py hzy hk hm0
     by_cases w5 : zy < za
     · have HNO : Hid (decide (KNext nx o.kids m x) = true) := decide_eq_true ⟨HOK.out, fun y' _ h => by
        rw [HKM.out, Nat.add_sub_cancel, HY.out] at h
        injection h with h
        rw [← h, ← HZY.out, ← HZA.out]; exact w5⟩
       go_wp2_with fail
       rw [← hW0, ← hby]
       clear hW0 hby c0 c1 c2
       refine wp_region_quiet_below (by kernel_rfl) (by kernel_rfl) ?_
       repeat (go_big_quiet_step (first | with_reducible exact D3.out _ _ | with_reducible exact D4.out _ _))
       refine wpQuiet_nil ?_
       rintro _ ⟨⟨dq, osq⟩, rfl⟩
       have B9 := Lib.hid (next_below BN.out (below_regrown W0 dq osq))
       clear g0 g1 g2 gk2 gk3
       go_wp2_with fail
       go_roundg j
       case measure => omega
       case rel => exact ⟨m + 1, by have := HMK.out; have := EQ.out.2.2.2.2.2.1; omega, by go_num, by rw [← EQ.out.2.1, HST.out, ← HR.out, ← Bool.and_assoc, HRK.out, HNO.out]; rfl, B9.out⟩
     · have HNO : Hid (decide (KNext nx o.kids m x) = false) := decide_eq_false fun h => w5 (by
        have := h.2 y (by rw [HKM.out]; omega) (by rw [HKM.out, Nat.add_sub_cancel]; exact HY.out)
        rw [HZY.out, HZA.out]; exact this)
       have d1 : decide (zy < za) = false := decide_eq_false w5
       go_wp2_with fail
       rw [← hW0, ← hby]
       clear hW0 hby c0 c1 c2
       refine wp_region_quiet_below (by kernel_rfl) (by kernel_rfl) ?_
       repeat (go_big_quiet_step (first | with_reducible exact D3.out _ _ | with_reducible exact D4.out _ _))
       refine wpQuiet_nil ?_
       rintro _ ⟨⟨dq, osq⟩, rfl⟩
       have B9 := Lib.hid (next_below BN.out (below_regrown W0 dq osq))
       clear g0 g1 g2 gk2 gk3
       go_wp2_with fail
       go_roundg j
       case measure => omega
       case rel => exact ⟨m + 1, by have := HMK.out; have := EQ.out.2.2.2.2.2.1; omega, by go_num, by rw [← EQ.out.2.1, HST.out, ← HR.out, ← Bool.and_assoc, HRK.out, HNO.out]; rfl, B9.out⟩
end Go.Proofs.YtgcbfggoddkhnaaGreatDoor
