/- Lemmas for the law: Co, QGt, Pn. -/
import Derived.Test.YtgcbfggoddkhnaaGreatDoorM10
import Derived.Test.YtgcbfggoddkhnaaGreatDoorM06
import Derived.Test.YtgcbfggoddkhnaaGreatDoorM05
import Derived.Test.YtgcbfggoddkhnaaGreatDoorM04
namespace Go.Proofs.YtgcbfggoddkhnaaGreatDoor
open Go.RowKit
def CopyOwn (W : World) (base : Nat) (v vk : Value) (o : Ob) : Prop :=
 ∃ (vl vb vo ve vm : Value) (ss : List Value) (b1 b2 b3 : Nat), v = .agg #[.int .i64 o.kind, vl, vk, .int .i64 o.next, vb, vo, .int .i64 o.cats, ve, .int .i64 o.ring, vm] ∧ base ≤ b1 ∧ b1 ≤ b2 ∧ b2 ≤ b3 ∧
  W.ownsRow base 42 2 vl o.lab.length (entCells o.lab) ∧ (∀ y, vl.ownBlock = some y → y < b1) ∧
  W.ownsRow b1 5 1 vb o.bytes.length (Tp.cellsOf o.bytes) ∧ (∀ y, vb.ownBlock = some y → y < b2) ∧
  W.ownsRow b2 45 3 vm o.maps.length (mapCells o.maps ss) ∧ (∀ y, vm.ownBlock = some y → y < b3) ∧ ss.length = o.maps.length ∧
  (∀ (j : Nat) (x : Mp) (s : Value), o.maps[j]? = some x → ss[j]? = some s → W.ownsRow b3 3 1 s x.2.1.length (Pa.zCellsOf x.2.1)) ∧
  ∀ (j k : Nat) (s t : Value) (y : Nat), j < k → ss[j]? = some s → ss[k]? = some t → s.ownBlock = some y → t.ownBlock ≠ some y
def RetOwn (w : World) (o : Ob) (e : Ending) (w' : World) : Prop :=
 Below w.heap.size w w' ∧ ∃ v vk, e = .returned v ∧ w'.ownsRow w.heap.size 85 3 vk o.kids.length (kidCells o.kids) ∧ ObjK w' (fun x => x < w.heap.size ∨ vk.ownBlock = some x) v vk o ∧ CopyOwn w' w.heap.size v vk o
def CpRelO (w w6 : World) (o : Ob) (vm vk : Value) (cs zs : Array Value) (B : Nat) (k : Nat) (i : Value) (wr : World) : Prop :=
 ∃ (m : Nat) (ss : List Value), m + k = o.maps.length ∧ i = .int .i64 (m : Int) ∧ BoxAt wr w.heap.size cs 29 ∧ BoxAt wr (w.heap.size + 1) zs 29 ∧ wr.ownsRow B 45 3 vm o.maps.length (mapCells o.maps ss) ∧ ss.length = o.maps.length ∧
  (∀ (j : Nat) (x : Mp) (s : Value), o.maps[j]? = some x → ss[j]? = some s → (j < m → SlV wr (fun x => Cf w vk x ∨ vm.ownBlock = some x) s x.2.1.length (Pa.zCellsOf x.2.1)) ∧ SlV wr (fun x => vm.ownBlock = some x) s x.2.1.length (Pa.zCellsOf x.2.1)) ∧
  Tp.Kp (fun x => vm.ownBlock = some x) w6 wr ∧
  (∀ (j : Nat) (x : Mp) (s : Value), j < m → o.maps[j]? = some x → ss[j]? = some s → wr.ownsRow w6.heap.size 3 1 s x.2.1.length (Pa.zCellsOf x.2.1)) ∧
  ∀ (j k : Nat) (s t : Value) (y : Nat), j < k → k < m → ss[j]? = some s → ss[k]? = some t → s.ownBlock = some y → t.ownBlock ≠ some y
set_option maxRecDepth 100000 in
set_option maxHeartbeats 8000000 in
theorem copy_own {w : World} {F : Nat → Prop} {v : Value} {o : Ob} (h : ObjAt w F v o) (hw : WideO o) : Calls Tryz.prog 10 #[v] w (RetOwn w o) := by
 obtain ⟨vk, ⟨vl, vb, vo, ve, vm, rfl, hlab, hbytes, hown, hentry, hmaps⟩, hkids⟩ := h
 obtain ⟨ss, hsegs, hmaps⟩ := hmaps.cells
 have hm1 := mapCells_one hsegs
 have hml := mapCells_length hsegs.1
 have wl := hw.lab.1
 have wk := hw.kids.1
 have wb := hw.bytes.1
 have wo := hw.own.1
 have we := hw.entry.1
 have wm := hw.maps.1
 obtain ⟨Al, cl, rfl, hlab'⟩ : ∃ A c, vl = .slice A o.lab.length c ∧ True := by obtain ⟨A, c, h, _⟩ := hlab; exact ⟨A, c, h, trivial⟩
 obtain ⟨Ak, ck, rfl, -⟩ : ∃ A c, vk = .slice A o.kids.length c ∧ True := by obtain ⟨A, c, h, _⟩ := hkids; exact ⟨A, c, h, trivial⟩
 obtain ⟨Ab, cb, rfl, -⟩ : ∃ A c, vb = .slice A o.bytes.length c ∧ True := by obtain ⟨A, c, h, _⟩ := hbytes; exact ⟨A, c, h, trivial⟩
 obtain ⟨Ao, co, rfl, -⟩ : ∃ A c, vo = .slice A o.own.length c ∧ True := by obtain ⟨A, c, h, _⟩ := hown; exact ⟨A, c, h, trivial⟩
 obtain ⟨Ae, ce, rfl, -⟩ : ∃ A c, ve = .slice A o.entry.length c ∧ True := by obtain ⟨A, c, h, _⟩ := hentry; exact ⟨A, c, h, trivial⟩
 obtain ⟨Am, cm, rfl, -⟩ : ∃ A c, vm = .slice A o.maps.length c ∧ True := by obtain ⟨A, c, h, _⟩ := hmaps; exact ⟨A, c, h, trivial⟩
 clear hlab'
 have R1 : Hid (∀ W, Below w.heap.size w W → Calls Tryz.prog 39 #[.slice Al o.lab.length cl] W (RetCells W 42 2 o.lab.length (entCells o.lab))) := fun W hW => clone39_any (F := No) (hlab.on hW fun _ _ h => h.elim) (entCells_length _) (entCells_one _) (by omega)
 have R2 : Hid (∀ W, Below w.heap.size w W → Calls Tryz.prog 40 #[.slice Ak o.kids.length ck] W (RetCells W 85 3 o.kids.length (kidCells o.kids))) := fun W hW => clone40_any (F := No) (hkids.on hW fun _ _ h => h.elim) (kidCells_length _) (kidCells_one _) (by omega)
 have R3 : Hid (∀ W, Below w.heap.size w W → Calls Tryz.prog 41 #[.slice Ab o.bytes.length cb] W (RetCells W 5 1 o.bytes.length (Tp.cellsOf o.bytes))) := fun W hW => clone41_any (F := No) (hbytes.on hW fun _ _ h => h.elim) (by rw [Tp.cellsOf_length]; omega) (Tp.cellsOf_one _) (by omega)
 have R4 : Hid (∀ W, Below w.heap.size w W → Calls Tryz.prog 42 #[.slice Ao o.own.length co] W (RetCells W 9 1 o.own.length (strCellsOf o.own))) := fun W hW => clone42_any (F := No) (hown.on hW fun _ _ h => h.elim) (by simp [strCellsOf]) (strCells_one _) (by omega)
 have R5 : Hid (∀ W, Below w.heap.size w W → Calls Tryz.prog 39 #[.slice Ae o.entry.length ce] W (RetCells W 42 2 o.entry.length (entCells o.entry))) := fun W hW => clone39_any (F := No) (hentry.on hW fun _ _ h => h.elim) (entCells_length _) (entCells_one _) (by omega)
 have R6 : Hid (∀ W, Below w.heap.size w W → Calls Tryz.prog 43 #[.slice Am o.maps.length cm] W (RetCells W 45 3 o.maps.length (mapCells o.maps ss))) := fun W hW => clone43_any (F := No) (hmaps.on hW fun _ _ h => h.elim) hml hm1 (by omega)
 have SG := Lib.hid hsegs
 have WM := Lib.hid hw.maps
 obtain ⟨W0, hW0⟩ : ∃ W0, W0 = (w.alloc (.cells #[.int .i64 o.kind, .slice Al o.lab.length cl, .slice Ak o.kids.length ck, .int .i64 o.next, .slice Ab o.bytes.length cb, .slice Ao o.own.length co, .int .i64 o.cats, .slice Ae o.entry.length ce, .int .i64 o.ring, .slice Am o.maps.length cm] 29)).alloc (.cells #[.int .i64 0, .slice none 0 0, .slice none 0 0, .int .i64 0, .slice none 0 0, .slice none 0 0, .int .i64 0, .slice none 0 0, .int .i64 0, .slice none 0 0] 29) := ⟨_, rfl⟩
 have b0 : Below w.heap.size w W0 := by rw [hW0]; exact ((Below.refl _ _).alloc (Nat.le_refl _) _).alloc (by simp) _
 have x0 : BoxAt W0 w.heap.size #[.int .i64 o.kind, .slice Al o.lab.length cl, .slice Ak o.kids.length ck, .int .i64 o.next, .slice Ab o.bytes.length cb, .slice Ao o.own.length co, .int .i64 o.cats, .slice Ae o.entry.length ce, .int .i64 o.ring, .slice Am o.maps.length cm] 29 := by rw [hW0]; exact (BoxAt.new _ _ _).alloc _
 have z0 : BoxAt W0 (w.heap.size + 1) #[.int .i64 0, .slice none 0 0, .slice none 0 0, .int .i64 0, .slice none 0 0, .slice none 0 0, .int .i64 0, .slice none 0 0, .int .i64 0, .slice none 0 0] 29 := by rw [hW0]; have := BoxAt.new (w.alloc (.cells #[.int .i64 o.kind, .slice Al o.lab.length cl, .slice Ak o.kids.length ck, .int .i64 o.next, .slice Ab o.bytes.length cb, .slice Ao o.own.length co, .int .i64 o.cats, .slice Ae o.entry.length ce, .int .i64 o.ring, .slice Am o.maps.length cm] 29)) #[.int .i64 0, .slice none 0 0, .slice none 0 0, .int .i64 0, .slice none 0 0, .slice none 0 0, .int .i64 0, .slice none 0 0, .int .i64 0, .slice none 0 0] 29; simpa using this
 have s0 : w.heap.size + 1 < W0.heap.size := z0.lt
 have H := R1.out W0 b0
 rw [hW0] at H
 have H1 := Lib.hid H
 have HW0 := Lib.hid hW0
 have B0 := Lib.hid b0
 have X0 := Lib.hid x0
 have Z0 := Lib.hid z0
 have S0 := Lib.hid s0
 clear hlab hbytes hown hentry hmaps hkids hm1 hml hw hsegs hW0 b0 x0 z0 s0 H
 go_enter Tryz.func10, Tryz.ntmps10
 go_wp2_with fail
 refine H1.out.mono ?_
 rintro en w1 ⟨hb, v1, rfl, hr⟩
 rw [← HW0.out] at hb hr
 obtain ⟨A1, c1, rfl⟩ : ∃ A c, v1 = .slice A o.lab.length c := by obtain ⟨A, c, h, _⟩ := slv_row hr; exact ⟨A, c, h⟩
 have hx := X0.out.on hb
 have hz := Z0.out.on hb
 obtain ⟨W1, hW⟩ : ∃ W, W = w1.setCell ⟨w.heap.size, 1, none⟩ (.slice A1 o.lab.length c1) := ⟨_, rfl⟩
 have B1 : Hid (Below w.heap.size w W1) := by rw [hW]; exact below_step B0.out hb (Nat.le_refl _) _ _
 have X1 : Hid (BoxAt W1 w.heap.size #[.int .i64 o.kind, .slice A1 o.lab.length c1, .slice Ak o.kids.length ck, .int .i64 o.next, .slice Ab o.bytes.length cb, .slice Ao o.own.length co, .int .i64 o.cats, .slice Ae o.entry.length ce, .int .i64 o.ring, .slice Am o.maps.length cm] 29) := by rw [hW]; exact hx.setL 1 _
 have Z1 : Hid (BoxAt W1 (w.heap.size + 1) #[.int .i64 0, .slice none 0 0, .slice none 0 0, .int .i64 0, .slice none 0 0, .slice none 0 0, .int .i64 0, .slice none 0 0, .int .i64 0, .slice none 0 0] 29) := by rw [hW]; exact hz.far (by simp) _
 have hlt : w.heap.size + 1 < W0.heap.size := Z0.out.lt
 have S1 : Hid (W0.heap.size ≤ W1.heap.size) := by rw [hW, size_set]; exact hb.size
 have hrW : W1.ownsRow W0.heap.size 42 2 (.slice A1 o.lab.length c1) o.lab.length (entCells o.lab) := by rw [hW]; exact own_step hr (Below.refl _ _) (by omega) _ _
 have O1 := Lib.hid hrW
 have OL := Lib.hid hrW
 have G1 : Hid (∀ j, (.slice A1 o.lab.length c1 : Value).ownBlock = some j → W0.heap.size ≤ j ∧ j < W1.heap.size) := fun j hj => hrW.lt j hj
 have H := R2.out W1 B1.out
 obtain ⟨q0, q1, q2, q3, q4, q5, q6, q7, q8, q9⟩ := box10 hx
 have fr := hx.frozen
 have HH := Lib.hid H
 have HW := Lib.hid hW
 clear H hb hr hx hz hW hlt hrW
 go_wp2_with fail
 rw [← HW.out]
 refine HH.out.mono ?_
 clear q0 q1 q2 q3 q4 q5 q6 q7 q8 q9 fr HH HW
 rintro en w2 ⟨hb, v2, rfl, hr⟩
 obtain ⟨A2, c2, rfl⟩ : ∃ A c, v2 = .slice A o.kids.length c := by obtain ⟨A, c, h, _⟩ := slv_row hr; exact ⟨A, c, h⟩
 have hx := X1.out.on hb
 have hz := Z1.out.on hb
 obtain ⟨W2, hW⟩ : ∃ W, W = w2.setCell ⟨w.heap.size, 2, none⟩ (.slice A2 o.kids.length c2) := ⟨_, rfl⟩
 have B2 : Hid (Below w.heap.size w W2) := by rw [hW]; exact below_step B1.out hb (Nat.le_refl _) _ _
 have X2 : Hid (BoxAt W2 w.heap.size #[.int .i64 o.kind, .slice A1 o.lab.length c1, .slice A2 o.kids.length c2, .int .i64 o.next, .slice Ab o.bytes.length cb, .slice Ao o.own.length co, .int .i64 o.cats, .slice Ae o.entry.length ce, .int .i64 o.ring, .slice Am o.maps.length cm] 29) := by rw [hW]; exact hx.setL 2 _
 have Z2 : Hid (BoxAt W2 (w.heap.size + 1) #[.int .i64 0, .slice none 0 0, .slice none 0 0, .int .i64 0, .slice none 0 0, .slice none 0 0, .int .i64 0, .slice none 0 0, .int .i64 0, .slice none 0 0] 29) := by rw [hW]; exact hz.far (by simp) _
 have hlt : w.heap.size + 1 < W1.heap.size := Z1.out.lt
 have S2 : Hid (W1.heap.size ≤ W2.heap.size) := by rw [hW, size_set]; exact hb.size
 have hrW : W2.ownsRow W1.heap.size 85 3 (.slice A2 o.kids.length c2) o.kids.length (kidCells o.kids) := by rw [hW]; exact own_step hr (Below.refl _ _) (by omega) _ _
 have O2 := Lib.hid hrW
 have G2 : Hid (∀ j, (.slice A2 o.kids.length c2 : Value).ownBlock = some j → W1.heap.size ≤ j ∧ j < W2.heap.size) := fun j hj => hrW.lt j hj
 have L1 : Hid (SlV W2 (Cf w (.slice A2 o.kids.length c2)) (.slice A1 o.lab.length c1) o.lab.length (entCells o.lab)) := by
  rw [hW]
  refine (slv_row OL.out).kp ((Tp.Kp.of_below hb (fun x => x = w.heap.size)).setCell (fun _ => rfl) _) (fun x _ e => by subst e; have := S0.out; omega) (fun x hx h => ?_)
  rcases h with h | h
  · have := S0.out; omega
  · have := (G2.out x h).1; omega
 have O1' : Hid (W2.ownsRow W0.heap.size 42 2 (.slice A1 o.lab.length c1) o.lab.length (entCells o.lab)) := by rw [hW]; exact own_step O1.out hb (by have := S0.out; omega) _ _
 clear O1
 have O1 := O1'
 clear O1'
 have H := R3.out W2 B2.out
 obtain ⟨q0, q1, q2, q3, q4, q5, q6, q7, q8, q9⟩ := box10 hx
 have fr := hx.frozen
 have HH := Lib.hid H
 have HW := Lib.hid hW
 clear H hb hr hx hz hW hlt hrW
 go_wp2_with fail
 rw [← HW.out]
 refine HH.out.mono ?_
 clear q0 q1 q2 q3 q4 q5 q6 q7 q8 q9 fr HH HW
 rintro en w3 ⟨hb, v3, rfl, hr⟩
 obtain ⟨A3, c3, rfl⟩ : ∃ A c, v3 = .slice A o.bytes.length c := by obtain ⟨A, c, h, _⟩ := slv_row hr; exact ⟨A, c, h⟩
 have hx := X2.out.on hb
 have hz := Z2.out.on hb
 obtain ⟨W3, hW⟩ : ∃ W, W = w3.setCell ⟨w.heap.size, 4, none⟩ (.slice A3 o.bytes.length c3) := ⟨_, rfl⟩
 have B3 : Hid (Below w.heap.size w W3) := by rw [hW]; exact below_step B2.out hb (Nat.le_refl _) _ _
 have X3 : Hid (BoxAt W3 w.heap.size #[.int .i64 o.kind, .slice A1 o.lab.length c1, .slice A2 o.kids.length c2, .int .i64 o.next, .slice A3 o.bytes.length c3, .slice Ao o.own.length co, .int .i64 o.cats, .slice Ae o.entry.length ce, .int .i64 o.ring, .slice Am o.maps.length cm] 29) := by rw [hW]; exact hx.setL 4 _
 have Z3 : Hid (BoxAt W3 (w.heap.size + 1) #[.int .i64 0, .slice none 0 0, .slice none 0 0, .int .i64 0, .slice none 0 0, .slice none 0 0, .int .i64 0, .slice none 0 0, .int .i64 0, .slice none 0 0] 29) := by rw [hW]; exact hz.far (by simp) _
 have hlt : w.heap.size + 1 < W2.heap.size := Z2.out.lt
 have S3 : Hid (W2.heap.size ≤ W3.heap.size) := by rw [hW, size_set]; exact hb.size
 have hrW : W3.ownsRow W2.heap.size 5 1 (.slice A3 o.bytes.length c3) o.bytes.length (Tp.cellsOf o.bytes) := by rw [hW]; exact own_step hr (Below.refl _ _) (by omega) _ _
 have O3 := Lib.hid hrW
 have G3 : Hid (∀ j, (.slice A3 o.bytes.length c3 : Value).ownBlock = some j → W2.heap.size ≤ j ∧ j < W3.heap.size) := fun j hj => hrW.lt j hj
 have O1' : Hid (W3.ownsRow W0.heap.size 42 2 (.slice A1 o.lab.length c1) o.lab.length (entCells o.lab)) := by rw [hW]; exact own_step O1.out hb (by have := S0.out; omega) _ _
 clear O1
 have O1 := O1'
 clear O1'
 have L1' : Hid (SlV W3 (Cf w (.slice A2 o.kids.length c2)) (.slice A1 o.lab.length c1) o.lab.length (entCells o.lab)) := by rw [hW]; exact slv_step L1.out hb (.inl (by omega)) _ _
 clear L1
 have L1 := L1'
 clear L1'
 have O2' : Hid (W3.ownsRow W1.heap.size 85 3 (.slice A2 o.kids.length c2) o.kids.length (kidCells o.kids)) := by rw [hW]; exact own_step O2.out hb (by have := X1.out.lt; omega) _ _
 clear O2
 have O2 := O2'
 clear O2'
 have L3 : Hid (SlV W3 (Cf w (.slice A2 o.kids.length c2)) (.slice A3 o.bytes.length c3) o.bytes.length (Tp.cellsOf o.bytes)) := (slv_row hrW).on (Below.refl _ _) fun x _ h => by
  rcases h with h | h
  · omega
  · have := (G2.out x h).2;  omega
 have H := R4.out W3 B3.out
 obtain ⟨q0, q1, q2, q3, q4, q5, q6, q7, q8, q9⟩ := box10 hx
 have fr := hx.frozen
 have HH := Lib.hid H
 have HW := Lib.hid hW
 clear H hb hr hx hz hW hlt hrW
 go_wp2_with fail
 rw [← HW.out]
 refine HH.out.mono ?_
 clear q0 q1 q2 q3 q4 q5 q6 q7 q8 q9 fr HH HW
 rintro en w4 ⟨hb, v4, rfl, hr⟩
 obtain ⟨A4, c4, rfl⟩ : ∃ A c, v4 = .slice A o.own.length c := by obtain ⟨A, c, h, _⟩ := slv_row hr; exact ⟨A, c, h⟩
 have hx := X3.out.on hb
 have hz := Z3.out.on hb
 obtain ⟨W4, hW⟩ : ∃ W, W = w4.setCell ⟨w.heap.size, 5, none⟩ (.slice A4 o.own.length c4) := ⟨_, rfl⟩
 have B4 : Hid (Below w.heap.size w W4) := by rw [hW]; exact below_step B3.out hb (Nat.le_refl _) _ _
 have X4 : Hid (BoxAt W4 w.heap.size #[.int .i64 o.kind, .slice A1 o.lab.length c1, .slice A2 o.kids.length c2, .int .i64 o.next, .slice A3 o.bytes.length c3, .slice A4 o.own.length c4, .int .i64 o.cats, .slice Ae o.entry.length ce, .int .i64 o.ring, .slice Am o.maps.length cm] 29) := by rw [hW]; exact hx.setL 5 _
 have Z4 : Hid (BoxAt W4 (w.heap.size + 1) #[.int .i64 0, .slice none 0 0, .slice none 0 0, .int .i64 0, .slice none 0 0, .slice none 0 0, .int .i64 0, .slice none 0 0, .int .i64 0, .slice none 0 0] 29) := by rw [hW]; exact hz.far (by simp) _
 have hlt : w.heap.size + 1 < W3.heap.size := Z3.out.lt
 have S4 : Hid (W3.heap.size ≤ W4.heap.size) := by rw [hW, size_set]; exact hb.size
 have hrW : W4.ownsRow W3.heap.size 9 1 (.slice A4 o.own.length c4) o.own.length (strCellsOf o.own) := by rw [hW]; exact own_step hr (Below.refl _ _) (by omega) _ _
 have O1' : Hid (W4.ownsRow W0.heap.size 42 2 (.slice A1 o.lab.length c1) o.lab.length (entCells o.lab)) := by rw [hW]; exact own_step O1.out hb (by have := S0.out; omega) _ _
 clear O1
 have O1 := O1'
 clear O1'
 have O3' : Hid (W4.ownsRow W2.heap.size 5 1 (.slice A3 o.bytes.length c3) o.bytes.length (Tp.cellsOf o.bytes)) := by rw [hW]; exact own_step O3.out hb (by have := S0.out; have := S1.out; have := S2.out; omega) _ _
 clear O3
 have O3 := O3'
 clear O3'
 have L1' : Hid (SlV W4 (Cf w (.slice A2 o.kids.length c2)) (.slice A1 o.lab.length c1) o.lab.length (entCells o.lab)) := by rw [hW]; exact slv_step L1.out hb (.inl (by omega)) _ _
 clear L1
 have L1 := L1'
 clear L1'
 have O2' : Hid (W4.ownsRow W1.heap.size 85 3 (.slice A2 o.kids.length c2) o.kids.length (kidCells o.kids)) := by rw [hW]; exact own_step O2.out hb (by have := X1.out.lt; omega) _ _
 clear O2
 have O2 := O2'
 clear O2'
 have L3' : Hid (SlV W4 (Cf w (.slice A2 o.kids.length c2)) (.slice A3 o.bytes.length c3) o.bytes.length (Tp.cellsOf o.bytes)) := by rw [hW]; exact slv_step L3.out hb (.inl (by omega)) _ _
 clear L3
 have L3 := L3'
 clear L3'
 have L4 : Hid (SlV W4 (Cf w (.slice A2 o.kids.length c2)) (.slice A4 o.own.length c4) o.own.length (strCellsOf o.own)) := (slv_row hrW).on (Below.refl _ _) fun x _ h => by
  rcases h with h | h
  · omega
  · have := (G2.out x h).2; have := S3.out; omega
 have H := R5.out W4 B4.out
 obtain ⟨q0, q1, q2, q3, q4, q5, q6, q7, q8, q9⟩ := box10 hx
 have fr := hx.frozen
 have HH := Lib.hid H
 have HW := Lib.hid hW
 clear H hb hr hx hz hW hlt hrW
 go_wp2_with fail
 rw [← HW.out]
 refine HH.out.mono ?_
 clear q0 q1 q2 q3 q4 q5 q6 q7 q8 q9 fr HH HW
 rintro en w5 ⟨hb, v5, rfl, hr⟩
 obtain ⟨A5, c5, rfl⟩ : ∃ A c, v5 = .slice A o.entry.length c := by obtain ⟨A, c, h, _⟩ := slv_row hr; exact ⟨A, c, h⟩
 have hx := X4.out.on hb
 have hz := Z4.out.on hb
 obtain ⟨W5, hW⟩ : ∃ W, W = w5.setCell ⟨w.heap.size, 7, none⟩ (.slice A5 o.entry.length c5) := ⟨_, rfl⟩
 have B5 : Hid (Below w.heap.size w W5) := by rw [hW]; exact below_step B4.out hb (Nat.le_refl _) _ _
 have X5 : Hid (BoxAt W5 w.heap.size #[.int .i64 o.kind, .slice A1 o.lab.length c1, .slice A2 o.kids.length c2, .int .i64 o.next, .slice A3 o.bytes.length c3, .slice A4 o.own.length c4, .int .i64 o.cats, .slice A5 o.entry.length c5, .int .i64 o.ring, .slice Am o.maps.length cm] 29) := by rw [hW]; exact hx.setL 7 _
 have Z5 : Hid (BoxAt W5 (w.heap.size + 1) #[.int .i64 0, .slice none 0 0, .slice none 0 0, .int .i64 0, .slice none 0 0, .slice none 0 0, .int .i64 0, .slice none 0 0, .int .i64 0, .slice none 0 0] 29) := by rw [hW]; exact hz.far (by simp) _
 have hlt : w.heap.size + 1 < W4.heap.size := Z4.out.lt
 have S5 : Hid (W4.heap.size ≤ W5.heap.size) := by rw [hW, size_set]; exact hb.size
 have hrW : W5.ownsRow W4.heap.size 42 2 (.slice A5 o.entry.length c5) o.entry.length (entCells o.entry) := by rw [hW]; exact own_step hr (Below.refl _ _) (by omega) _ _
 have O1' : Hid (W5.ownsRow W0.heap.size 42 2 (.slice A1 o.lab.length c1) o.lab.length (entCells o.lab)) := by rw [hW]; exact own_step O1.out hb (by have := S0.out; omega) _ _
 clear O1
 have O1 := O1'
 clear O1'
 have O3' : Hid (W5.ownsRow W2.heap.size 5 1 (.slice A3 o.bytes.length c3) o.bytes.length (Tp.cellsOf o.bytes)) := by rw [hW]; exact own_step O3.out hb (by have := S0.out; have := S1.out; have := S2.out; omega) _ _
 clear O3
 have O3 := O3'
 clear O3'
 have L1' : Hid (SlV W5 (Cf w (.slice A2 o.kids.length c2)) (.slice A1 o.lab.length c1) o.lab.length (entCells o.lab)) := by rw [hW]; exact slv_step L1.out hb (.inl (by omega)) _ _
 clear L1
 have L1 := L1'
 clear L1'
 have O2' : Hid (W5.ownsRow W1.heap.size 85 3 (.slice A2 o.kids.length c2) o.kids.length (kidCells o.kids)) := by rw [hW]; exact own_step O2.out hb (by have := X1.out.lt; omega) _ _
 clear O2
 have O2 := O2'
 clear O2'
 have L3' : Hid (SlV W5 (Cf w (.slice A2 o.kids.length c2)) (.slice A3 o.bytes.length c3) o.bytes.length (Tp.cellsOf o.bytes)) := by rw [hW]; exact slv_step L3.out hb (.inl (by omega)) _ _
 clear L3
 have L3 := L3'
 clear L3'
 have L4' : Hid (SlV W5 (Cf w (.slice A2 o.kids.length c2)) (.slice A4 o.own.length c4) o.own.length (strCellsOf o.own)) := by rw [hW]; exact slv_step L4.out hb (.inl (by omega)) _ _
 clear L4
 have L4 := L4'
 clear L4'
 have L5 : Hid (SlV W5 (Cf w (.slice A2 o.kids.length c2)) (.slice A5 o.entry.length c5) o.entry.length (entCells o.entry)) := (slv_row hrW).on (Below.refl _ _) fun x _ h => by
  rcases h with h | h
  · omega
  · have := (G2.out x h).2; have := S3.out; have := S4.out; omega
 have H := R6.out W5 B5.out
 obtain ⟨q0, q1, q2, q3, q4, q5, q6, q7, q8, q9⟩ := box10 hx
 have fr := hx.frozen
 have HH := Lib.hid H
 have HW := Lib.hid hW
 clear H hb hr hx hz hW hlt hrW
 go_wp2_with fail
 rw [← HW.out]
 refine HH.out.mono ?_
 clear q0 q1 q2 q3 q4 q5 q6 q7 q8 q9 fr HH HW
 rintro en w6 ⟨hb, v6, rfl, hr⟩
 obtain ⟨A6, c6, rfl⟩ : ∃ A c, v6 = .slice A o.maps.length c := by obtain ⟨A, c, h, _⟩ := slv_row hr; exact ⟨A, c, h⟩
 have hx := X5.out.on hb
 have hz := Z5.out.on hb
 obtain ⟨W6, hW⟩ : ∃ W, W = w6.setCell ⟨w.heap.size, 9, none⟩ (.slice A6 o.maps.length c6) := ⟨_, rfl⟩
 have B6 : Hid (Below w.heap.size w W6) := by rw [hW]; exact below_step B5.out hb (Nat.le_refl _) _ _
 have X6 : Hid (BoxAt W6 w.heap.size #[.int .i64 o.kind, .slice A1 o.lab.length c1, .slice A2 o.kids.length c2, .int .i64 o.next, .slice A3 o.bytes.length c3, .slice A4 o.own.length c4, .int .i64 o.cats, .slice A5 o.entry.length c5, .int .i64 o.ring, .slice A6 o.maps.length c6] 29) := by rw [hW]; exact hx.setL 9 _
 have Z6 : Hid (BoxAt W6 (w.heap.size + 1) #[.int .i64 0, .slice none 0 0, .slice none 0 0, .int .i64 0, .slice none 0 0, .slice none 0 0, .int .i64 0, .slice none 0 0, .int .i64 0, .slice none 0 0] 29) := by rw [hW]; exact hz.far (by simp) _
 have hlt : w.heap.size + 1 < W5.heap.size := Z5.out.lt
 have S6 : Hid (W5.heap.size ≤ W6.heap.size) := by rw [hW, size_set]; exact hb.size
 have hrW : W6.ownsRow W5.heap.size 45 3 (.slice A6 o.maps.length c6) o.maps.length (mapCells o.maps ss) := by rw [hW]; exact own_step hr (Below.refl _ _) (by omega) _ _
 have O6 := Lib.hid hrW
 have GM : Hid (∀ j, (.slice A6 o.maps.length c6 : Value).ownBlock = some j → j < W6.heap.size) := fun j hj => (hrW.lt j hj).2
 have K56 : Hid (Tp.Kp (fun x => x = w.heap.size) W5 W6) := by rw [hW]; exact (Tp.Kp.of_below hb (fun x => x = w.heap.size)).setCell (fun _ => rfl) _
 have G6 : Hid (∀ j, (.slice A6 o.maps.length c6 : Value).ownBlock = some j → W5.heap.size ≤ j) := fun j hj => (hrW.lt j hj).1
 have G7 : Hid (W2.heap.size ≤ W5.heap.size ∧ W5.heap.size ≤ W6.heap.size ∧ w.heap.size + 1 < W5.heap.size) := by have := S3.out; have := S4.out; have := S5.out; have := S6.out; exact ⟨by omega, by omega, by omega⟩
 have SG6 : Hid (∀ (j : Nat) (x : Mp) (s : Value), o.maps[j]? = some x → ss[j]? = some s → SlV W6 (fun x => (.slice A6 o.maps.length c6 : Value).ownBlock = some x) s x.2.1.length (Pa.zCellsOf x.2.1)) := fun j x s hx hs => (SG.out.2 j x s hx hs).on B6.out fun y hy h => by have := G6.out y h; have := G7.out; omega
 obtain ⟨q0, q1, q2, q3, q4, q5, q6, q7, q8, q9⟩ := box10 hx
 have fr := hx.frozen
 have HW := Lib.hid hW
 obtain ⟨zs, hzs⟩ : ∃ zs : Array Value, zs = #[.int .i64 0, .slice none 0 0, .slice none 0 0, .int .i64 0, .slice none 0 0, .slice none 0 0, .int .i64 0, .slice none 0 0, .int .i64 0, .slice none 0 0] := ⟨_, rfl⟩
 obtain ⟨cs, hcs⟩ : ∃ cs : Array Value, cs = #[.int .i64 o.kind, .slice A1 o.lab.length c1, .slice A2 o.kids.length c2, .int .i64 o.next, .slice A3 o.bytes.length c3, .slice A4 o.own.length c4, .int .i64 o.cats, .slice A5 o.entry.length c5, .int .i64 o.ring, .slice A6 o.maps.length c6] := ⟨_, rfl⟩
 have ZS := Lib.hid hzs
 have CS := Lib.hid hcs
 have X6c : Hid (BoxAt W6 w.heap.size cs 29) := by rw [hcs]; exact X6.out
 have Z6c : Hid (BoxAt W6 (w.heap.size + 1) zs 29) := by rw [hzs]; exact Z6.out
 clear hb hr hx hz hW hlt hrW hzs hcs
 go_wp2_with fail
 rw [← HW.out]
 clear q0 q1 q2 q3 q4 q5 q6 q7 q8 q9 fr HW
 go_loopg [32] o.maps.length (fun k i wr => CpRelO w W6 o (.slice A6 o.maps.length c6) (.slice A2 o.kids.length c2) cs zs W5.heap.size k i wr)
 case atStart => exact ⟨0, ss, by simp, rfl, X6c.out, Z6c.out, O6.out, SG.out.1, fun j x s hx hs => ⟨fun h => absurd h (by omega), SG6.out j x s hx hs⟩, Tp.Kp.refl _ _, fun _ _ _ h => absurd h (by omega), fun _ _ _ _ _ _ h => absurd h (by omega)⟩
 case round =>
  obtain ⟨m, ts, hmk, hi, hx, hz, hrow, htl, hseg, hkp, hsow, hsne⟩ := hrel
  subst hi
  cases gk with
  | zero =>
    have hge : o.maps.length ≤ m := by omega
    rw [CS.out] at hx
    have hx10 := box10 hx
    obtain ⟨q0, q1, q2, q3, q4, q5, q6, q7, q8, q9⟩ := hx10
    rw [ZS.out] at hz
    obtain ⟨r0, r1, r2, r3, r4, r5, r6, r7, r8, r9⟩ := box10 hz
    have fr := hz.frozen
    have HZ := Lib.hid hz
    have g7 := G7.out
    have hbw : Below w.heap.size w wr := B6.out.trans (hkp.below (by have := B6.out.size; omega) fun y hy => by have := G6.out y hy; omega)
    have HBW := Lib.hid hbw
    have FIN : Hid (∀ WF, Tp.Kp (fun y => y = w.heap.size + 1) wr WF → WF.ownsRow w.heap.size 85 3 (.slice A2 o.kids.length c2) o.kids.length (kidCells o.kids) ∧ ObjK WF (fun x => x < w.heap.size ∨ (.slice A2 o.kids.length c2 : Value).ownBlock = some x) (.agg #[.int .i64 o.kind, .slice A1 o.lab.length c1, .slice A2 o.kids.length c2, .int .i64 o.next, .slice A3 o.bytes.length c3, .slice A4 o.own.length c4, .int .i64 o.cats, .slice A5 o.entry.length c5, .int .i64 o.ring, .slice A6 o.maps.length c6]) (.slice A2 o.kids.length c2) o ∧ CopyOwn WF w.heap.size (.agg #[.int .i64 o.kind, .slice A1 o.lab.length c1, .slice A2 o.kids.length c2, .int .i64 o.next, .slice A3 o.bytes.length c3, .slice A4 o.own.length c4, .int .i64 o.cats, .slice A5 o.entry.length c5, .int .i64 o.ring, .slice A6 o.maps.length c6]) (.slice A2 o.kids.length c2) o) := fun WF hK => by
     have K5 : Tp.Kp (fun y => y = w.heap.size ∨ (.slice A6 o.maps.length c6 : Value).ownBlock = some y ∨ y = w.heap.size + 1) W5 WF := ((K56.out.more (fun _ _ h => .inl h)).andThen hkp (fun _ _ h => .inr (.inl h))).andThen hK (fun _ _ h => .inr (.inr h))
     have hno : ∀ y, (.slice A2 o.kids.length c2 : Value).ownBlock = some y → ¬ (y = w.heap.size ∨ (.slice A6 o.maps.length c6 : Value).ownBlock = some y ∨ y = w.heap.size + 1) := fun y hy h => by
       have h1 := G2.out y hy
       have h2 := S1.out
       have h3 := S0.out
       rcases h with h | h | h
       · omega
       · have := G6.out y h
         omega
       · omega
     have hS : ∀ y, y < W5.heap.size → (y = w.heap.size ∨ (.slice A6 o.maps.length c6 : Value).ownBlock = some y ∨ y = w.heap.size + 1) → Cf w (.slice A2 o.kids.length c2) y := fun y hy h => by
       rcases h with h | h | h
       · exact .inl (by omega)
       · have := G6.out y h
         omega
       · exact .inl (by omega)
     have hF : ∀ y, y < W5.heap.size → (y < w.heap.size ∨ (.slice A2 o.kids.length c2 : Value).ownBlock = some y) → Cf w (.slice A2 o.kids.length c2) y := fun y _ h => h.imp (fun h => by omega) id
     have hn1 : ∀ y, (.slice A1 o.lab.length c1 : Value).ownBlock = some y → ¬ (y = w.heap.size ∨ (.slice A6 o.maps.length c6 : Value).ownBlock = some y ∨ y = w.heap.size + 1) := fun y hy h => by
       have h1 := G1.out y hy
       have h2 := S2.out
       have h3 := S0.out
       rcases h with h | h | h
       · omega
       · have := G6.out y h
         omega
       · omega
     have hn3 : ∀ y, (.slice A3 o.bytes.length c3 : Value).ownBlock = some y → ¬ (y = w.heap.size ∨ (.slice A6 o.maps.length c6 : Value).ownBlock = some y ∨ y = w.heap.size + 1) := fun y hy h => by
       have h1 := G3.out y hy
       have h2 := S1.out
       have h3 := S0.out
       have h4 := S2.out
       have h5 := S4.out
       have h6 := S5.out
       rcases h with h | h | h
       · omega
       · have := G6.out y h
         omega
       · omega
     have z0 := S0.out
     have z1 := S1.out
     have z2 := S2.out
     have z3 := S3.out
     have z4 := S4.out
     have z5 := S5.out
     have z6 := S6.out
     refine ⟨own_base (own_kp O2.out K5 hno) (by omega), ⟨_, _, _, _, _, rfl, L1.out.kp K5 hS hF, L3.out.kp K5 hS hF, L4.out.kp K5 hS hF, L5.out.kp K5 hS hF, mapsV_of (ss := ts) ⟨htl, fun j x s hj hs => ?_⟩ ?_⟩, ⟨_, _, _, _, _, ts, W2.heap.size, W3.heap.size, W6.heap.size, rfl, by omega, by omega, by omega,
       own_base (own_kp O1.out K5 hn1) (by omega), fun y hy => by have := (G1.out y hy).2; omega, own_kp O3.out K5 hn3, fun y hy => (G3.out y hy).2,
       own_base (own_kp hrow hK fun y hy e => by have := (hrow.lt y hy).1; omega) (by omega), fun y hy => GM.out y hy, htl, fun j x s hj hs => own_kp (hsow j x s (by have := (List.getElem?_eq_some_iff.1 hj).1; omega) hj hs) hK (fun y hy e => by have := ((hsow j x s (by have := (List.getElem?_eq_some_iff.1 hj).1; omega) hj hs).lt y hy).1; omega),
       fun j k s t y hjk hs ht => hsne j k s t y hjk (by have := (List.getElem?_eq_some_iff.1 ht).1; omega) hs ht⟩⟩
     · refine ((hseg j x s hj hs).1 ?_).kp hK (fun y _ h => .inl (.inl (by omega))) (fun y _ h => .inl (h.imp (fun h => by omega) id))
       have := (List.getElem?_eq_some_iff.1 hj).1
       omega
     · refine (slv_row hrow).kp hK (fun y _ h => by omega) (fun y _ h => ?_)
       rcases h with h | h
       · omega
       · have := (G2.out y h).2
         omega
    clear hx hz hrow hseg hkp hbw hsow hsne
    go_wp2_with fail
    refine bodyPost_ret (results_cell_row rfl _ _ (w.heap.size + 1) 29 #[.int .i64 o.kind, .slice A1 o.lab.length c1, .slice A2 o.kids.length c2, .int .i64 o.next, .slice A3 o.bytes.length c3, .slice A4 o.own.length c4, .int .i64 o.cats, .slice A5 o.entry.length c5, .int .i64 o.ring, .slice A6 o.maps.length c6] (0, 0) _ rfl (HZ.out.set10 _ _ _ _ _ _ _ _ _ _) Tryz.underlying29 rfl (by kernel_rfl)) rfl ?_
    exact ⟨below_put10 HBW.out (by omega) _ _ _ _ _ _ _ _ _ _, _, _, rfl, (FIN.out _ (kp_put10 _ _ _ _ _ _ _ _ _ _ _ _)).1, (FIN.out _ (kp_put10 _ _ _ _ _ _ _ _ _ _ _ _)).2.1, (FIN.out _ (kp_put10 _ _ _ _ _ _ _ _ _ _ _ _)).2.2⟩
  | succ j =>
    have hm : m < o.maps.length := by omega
    obtain ⟨x, hxm⟩ : ∃ x, o.maps[m]? = some x := ⟨_, List.getElem?_eq_getElem hm⟩
    obtain ⟨s, hsm⟩ : ∃ s, ts[m]? = some s := ⟨_, List.getElem?_eq_getElem (by omega)⟩
    have hsl := (hseg m x s hxm hsm).2
    have hwx := WM.out.2 x (List.mem_of_getElem? hxm)
    obtain ⟨e1, e2, e3⟩ := mapCells_at hxm hsm
    obtain ⟨at1, sg, wf⟩ := x
    obtain ⟨As, cs2, rfl, hsn, hsc, hss⟩ := hsl
    have hvm : ∃ gm, A6 = some ⟨gm, 0, none⟩ := by
     rcases hrow.2 with ⟨h, h0⟩ | ⟨gm, cap, cur, h, _⟩
     · omega
     · injection h with h _ _
       exact ⟨gm, h⟩
    obtain ⟨gm, rfl⟩ := hvm
    have hgm := hrow.lt gm rfl
    have d1 := (hrow.cellAt (m * 3) (by omega)).trans e1
    have d2 := (hrow.cellAt (m * 3 + 1) (by omega)).trans e2
    have d3 := (hrow.cellAt (m * 3 + 2) (by omega)).trans e3
    have hx9 := hx.cell (k := 9) (v := .slice (some ⟨gm, 0, none⟩) o.maps.length c6) (by rw [CS.out]; rfl)
    obtain ⟨V1, hV1⟩ : ∃ V1, V1 = wr.alloc (.cells #[.int .i64 at1, .slice As sg.length cs2, .bool wf] 45) := ⟨_, rfl⟩
    have hbV : Below wr.heap.size wr V1 := by rw [hV1]; exact (Below.refl _ _).alloc (Nat.le_refl _) _
    have hxV := hx.on hbV
    have k9 : V1.cell? ⟨w.heap.size, 9, none⟩ = some (.slice (some ⟨gm, 0, none⟩) o.maps.length c6) := hxV.cell (by rw [CS.out]; rfl)
    have kv : V1.cell? ⟨wr.heap.size, 1, none⟩ = some (.slice As sg.length cs2) := by rw [hV1]; exact (BoxAt.new _ _ _).cell rfl
    have hsV : V1.heap.size = wr.heap.size + 1 := by rw [hV1]; simp
    have H44 : Hid (Calls Tryz.prog 44 #[.slice As sg.length cs2] V1.drew fun e w' => (RetCells V1 3 1 sg.length (Pa.zCellsOf sg) e w') ∧ w'.cell? ⟨w.heap.size, 9, none⟩ = some (.slice (some ⟨gm, 0, none⟩) o.maps.length c6) ∧ w'.cell? ⟨wr.heap.size, 1, none⟩ = some (.slice As sg.length cs2) ∧
       w'.cell? ⟨gm, m * 3 + 1, none⟩ = some (.slice As sg.length cs2) ∧ w'.frozen? ⟨gm, m * 3 + 1, none⟩ = false) := by
     refine (clone44_any (F := No) (w := V1.drew) (SlV.on (w := wr) (w' := V1.drew) ⟨As, cs2, rfl, hsn, hsc, hss⟩ hbV.drew fun _ _ h => h.elim) (by simp [Pa.zCellsOf]) (Pa.zCells_one _) (by have := hwx.2.1; simp only at this; omega)).mono ?_
     rintro e w' ⟨hb, v, rfl, hr⟩
     have hb : Below V1.heap.size V1 w' := ⟨hb.os, hb.tape, hb.output, hb.size, hb.block⟩
     have hrg := own_on (own_on hrow hbV) hb
     exact ⟨⟨hb, v, rfl, hr⟩, (hb.cell (p := ⟨w.heap.size, 9, none⟩) hxV.lt).trans k9, (hb.cell (p := ⟨wr.heap.size, 1, none⟩) (show wr.heap.size < V1.heap.size by omega)).trans kv, (hrg.cellAt (m * 3 + 1) (by omega)).trans e2, hrg.frozenAt _⟩
    have HMK := Lib.hid hmk
    have HROW := Lib.hid hrow
    have HSEG := Lib.hid hseg
    have HTL := Lib.hid htl
    have HKP := Lib.hid hkp
    have HSOW := Lib.hid hsow
    have HSNE := Lib.hid hsne
    have HX := Lib.hid hx
    have HZ := Lib.hid hz
    have HV1 := Lib.hid hV1
    have HBV := Lib.hid hbV
    have HGM := Lib.hid hgm
    have HXM := Lib.hid hxm
    have HSM := Lib.hid hsm
    have hxlt := hx.lt
    have g7 := G7.out
    have hne1 : ¬ gm = w.heap.size := by omega
    have hne2 : ¬ gm = wr.heap.size := by omega
    clear hmk hrow hseg htl hkp hsow hsne hx hz hsm hxm e1 e2 e3 hbV hxV hwx hV1 hsV
    go_wp2_with fail
    rw [← HV1.out]
    have j9 : V1.drew.cell? ⟨w.heap.size, 9, none⟩ = some (.slice (some ⟨gm, 0, none⟩) o.maps.length c6) := k9
    have jv : V1.drew.cell? ⟨wr.heap.size, 1, none⟩ = some (.slice As sg.length cs2) := kv
    go_region_held3 (fun W => W.cell? ⟨w.heap.size, 9, none⟩ = some (.slice (some ⟨gm, 0, none⟩) o.maps.length c6) ∧ W.cell? ⟨wr.heap.size, 1, none⟩ = some (.slice As sg.length cs2))
     (first
       | with_reducible exact ⟨j9, jv⟩
       | with_reducible exact ⟨h9, hv⟩
       | with_reducible exact hst _)
     (first
       | (go_at_call 44; refine H44.out.mono ?_; rintro e w7 ⟨⟨hb7, v7, rfl, hr7⟩, h9, hv, hc7, hf7⟩; obtain ⟨A7, c7, rfl⟩ : ∃ A c, v7 = .slice A sg.length c := (by obtain ⟨A, c, h, _⟩ := slv_row hr7; exact ⟨A, c, h⟩); have hst := fun u => show (w7.setCell ⟨gm, m * 3 + 1, none⟩ u).cell? ⟨w.heap.size, 9, none⟩ = some (.slice (some ⟨gm, 0, none⟩) o.maps.length c6) ∧ (w7.setCell ⟨gm, m * 3 + 1, none⟩ u).cell? ⟨wr.heap.size, 1, none⟩ = some (.slice As sg.length cs2) from ⟨World.cell?_setCell_far w7 _ _ _ (by simp; omega) |>.trans h9, World.cell?_setCell_far w7 _ _ _ (by simp; omega) |>.trans hv⟩))
    have R7 := Lib.hid hr7
    have B7 := Lib.hid hb7
    clear hr7 hb7 hc7 hf7 h9 hv hst j9 jv k9 kv d1 d2 d3 hx9
    go_wp2_with fail
    go_roundg j
    case measure => omega
    case rel =>
     have hv1 : V1.heap.size = wr.heap.size + 1 := by rw [HV1.out]; simp
     have hB : Below wr.heap.size wr w7 := HBV.out.trans (B7.out.mono (by omega))
     have hK : Tp.Kp (fun y => y = gm) wr (w7.setCell ⟨gm, m * 3 + 1, none⟩ (.slice A7 sg.length c7)) := (Tp.Kp.of_below hB (fun y => y = gm)).setCell (fun _ => rfl) _
     have hgl := HGM.out
     have hml : m < ts.length := by have := HTL.out; omega
     refine ⟨m + 1, ts.set m (.slice A7 sg.length c7), by have := HMK.out; omega, by go_num, HX.out.kp hK (by omega), HZ.out.kp hK (by omega), ?_, by rw [List.length_set]; exact HTL.out, fun j x s hj hs => ?_, HKP.out.andThen hK (fun y _ h => by rw [h]; rfl), fun j x s hjm hj hs => ?_, fun j k s t y hjk hkm hs ht => ?_⟩
     · have := World.ownsRow.stored (own_on HROW.out hB) (m * 3 + 1) (.slice A7 sg.length c7) |>.1
       rwa [mapCells_set m _ hml hm] at this
     · by_cases hjm : j = m
       · subst hjm
         rw [HXM.out] at hj
         cases hj
         rw [List.getElem?_set_self hml] at hs
         cases hs
         have h7 : SlV w7 (fun y => y < V1.heap.size) (.slice A7 sg.length c7) sg.length (Pa.zCellsOf sg) := slv_row R7.out
         have hs6 := HKP.out.size
         have hset : ∀ (G : Nat → Prop), (∀ y, G y → y < V1.heap.size) → SlV (w7.setCell ⟨gm, j * 3 + 1, none⟩ (.slice A7 sg.length c7)) G (.slice A7 sg.length c7) sg.length (Pa.zCellsOf sg) := fun G hG =>
           h7.kp ((Tp.Kp.refl (fun y => y = gm) w7).setCell (fun _ => rfl) _) (fun y _ h => by omega) (fun y _ h => hG y h)
         have hvm : ∀ y, ((.slice (some ⟨gm, 0, none⟩) o.maps.length c6 : Value).ownBlock = some y) → y = gm := fun y h => by
           simp [Value.ownBlock] at h
           exact h.symm
         refine ⟨fun _ => hset _ fun y h => ?_, hset _ fun y h => by have := hvm y h; omega⟩
         rcases h with (h | h) | h
         · omega
         · have := (G2.out y h).2
           omega
         · have := hvm y h
           omega
       · rw [List.getElem?_set_ne (fun e => hjm e.symm)] at hs
         obtain ⟨h1, h2⟩ := HSEG.out j x s hj hs
         have hS : ∀ y, y = gm → (.slice (some ⟨gm, 0, none⟩) o.maps.length c6 : Value).ownBlock = some y := fun y h => by rw [h]; rfl
         exact ⟨fun hlt => (h1 (by omega)).kp hK (fun y _ h => .inr (hS y h)) (fun _ _ h => h), h2.kp hK (fun y _ h => hS y h) (fun _ _ h => h)⟩
     · have hgs : gm < W6.heap.size := GM.out gm rfl
       by_cases e : j = m
       · subst e
         rw [HXM.out] at hj
         cases hj
         rw [List.getElem?_set_self hml] at hs
         cases hs
         have hs6 := HKP.out.size
         exact own_base (own_kp R7.out ((Tp.Kp.refl (fun y => y = gm) w7).setCell (fun _ => rfl) _) fun y hy e => by have := (R7.out.lt y hy).1; omega) (by omega)
       · rw [List.getElem?_set_ne (fun h => e h.symm)] at hs
         have h1 := HSOW.out j x s (by omega) hj hs
         exact own_kp h1 hK fun y hy e => by have := (h1.lt y hy).1; omega
     · have hjn : ¬ j = m := by omega
       rw [List.getElem?_set_ne (fun h => hjn h.symm)] at hs
       by_cases e : k = m
       · subst e
         rw [List.getElem?_set_self hml] at ht
         cases ht
         intro hy hy2
         obtain ⟨x0, hx0⟩ : ∃ x, o.maps[j]? = some x := ⟨_, List.getElem?_eq_getElem (by omega)⟩
         have h1 := ((HSOW.out j x0 s hjk hx0 hs).lt y hy).2
         have h2 := (R7.out.lt y hy2).1
         omega
       · rw [List.getElem?_set_ne (fun h => e h.symm)] at ht
         exact HSNE.out j k s t y hjk (by omega) hs ht
end Go.Proofs.YtgcbfggoddkhnaaGreatDoor
namespace Go.Proofs.YtgcbfggoddkhnaaGreatDoor.Pa
open Go.RowKit
noncomputable def numStep (l : List Nat) (ok : Bool) (most : Int) : Int × List Nat × Bool :=
 if ok then
  match numAt l most with
  | some x => ((x.1 : Int), x.2, true)
  | none => (0, l, false)
 else (0, l, false)
theorem numStep_some {l r : List Nat} {most : Int} {n : Nat} (h : l = Tp.enc n ++ r) (h1 : (n : Int) ≤ most) (h2 : n < 9223372036854775808) : numStep l true most = ((n : Int), r, true) := by
 unfold numStep
 rw [if_pos rfl, numAt_some h h1 h2]
theorem numStep_none {l : List Nat} {most : Int} (h : Tp.NoNum l most) : numStep l true most = (0, l, false) := by
 unfold numStep
 rw [if_pos rfl, numAt_none h]
theorem numStep_no (l : List Nat) (most : Int) : numStep l false most = (0, l, false) := rfl
theorem numAt_spec {l : List Nat} {most : Int} {x : Nat × List Nat} (h : numAt l most = some x) : l = Tp.enc x.1 ++ x.2 ∧ (x.1 : Int) ≤ most ∧ x.1 < 9223372036854775808 := by
 unfold numAt at h
 split at h
 · rename_i hx
   injection h with h
   rw [← h]
   exact hx.choose_spec
 · cases h
theorem numStep_end (l : List Nat) (ok : Bool) (most : Int) : ∃ p, l = p ++ (numStep l ok most).2.1 := by
 unfold numStep
 split
 · split
   · rename_i x hx
     exact ⟨_, (numAt_spec hx).1⟩
   · exact ⟨[], rfl⟩
 · exact ⟨[], rfl⟩
theorem numStep_reach (l : List Nat) (ok : Bool) {most : Int} (hm : 0 ≤ most) : 0 ≤ (numStep l ok most).1 ∧ (numStep l ok most).1 ≤ most := by
 unfold numStep
 split
 · split
   · rename_i x hx
     have := (numAt_spec hx).2.1
     simp
     omega
   · simp; omega
 · simp; omega
theorem numStep_sml {l : List Nat} (h : Tp.Sml l) (ok : Bool) (most : Int) : Tp.Sml (numStep l ok most).2.1 := fun c hc => by
 obtain ⟨p, hp⟩ := numStep_end l ok most
 exact h c (by rw [hp]; exact List.mem_append_right _ hc)
theorem numStep_len (l : List Nat) (ok : Bool) (most : Int) : (numStep l ok most).2.1.length ≤ l.length := by
 obtain ⟨p, hp⟩ := numStep_end l ok most
 have := congrArg List.length hp
 rw [List.length_append] at this
 omega
theorem rdStep_eq (s : RdSt) : rdStep s = (s.1 ++ [(numStep s.2.1 s.2.2 1048576).1], (numStep s.2.1 s.2.2 1048576).2) := by
 unfold rdStep numStep
 generalize s.2.2 = b
 cases b with
 | false => rfl
 | true =>
  generalize numAt s.2.1 1048576 = y
  cases y <;> rfl
noncomputable def rd0 (l : List Nat) : RdSt := ([], (numStep l true 6).2)
noncomputable def rdN (l : List Nat) : Nat := (numStep l true 6).1.toNat
theorem rdAll_eq (l : List Nat) : rdAll l = rd (rdN l) (rd0 l) := by
 unfold rdAll rdN rd0 numStep
 rw [if_pos rfl]
 generalize numAt l 6 = y
 cases y with
 | none => rfl
 | some x => simp
theorem rdN_le (l : List Nat) : rdN l ≤ 6 := by
 have := numStep_reach l true (most := 6) (by omega)
 unfold rdN
 omega
theorem rdN_int (l : List Nat) : ((rdN l : Nat) : Int) = (numStep l true 6).1 := by
 have := numStep_reach l true (most := 6) (by omega)
 unfold rdN
 omega
theorem rd_sml {l : List Nat} (h : Tp.Sml l) : ∀ m, Tp.Sml (rd m (rd0 l)).2.1 ∧ (rd m (rd0 l)).2.1.length ≤ l.length
 | 0 => ⟨numStep_sml h _ _, numStep_len _ _ _⟩
 | m + 1 => by
  have ih := rd_sml h m
  show Tp.Sml (rdStep (rd m (rd0 l))).2.1 ∧ _
  rw [rd, rdStep_eq]
  exact ⟨numStep_sml ih.1 _ _, Nat.le_trans (numStep_len _ _ _) ih.2⟩
theorem rd_wide (l : List Nat) : ∀ m, WideZ (rd m (rd0 l)).1 ∧ (rd m (rd0 l)).1.length = m
 | 0 => ⟨fun z hz => by simp [rd, rd0] at hz, rfl⟩
 | m + 1 => by
  have ih := rd_wide l m
  rw [rd, rdStep_eq]
  refine ⟨fun z hz => ?_, by simp [ih.2]⟩
  rcases List.mem_append.1 hz with h | h
  · exact ih.1 z h
  · have := numStep_reach (rd m (rd0 l)).2.1 (rd m (rd0 l)).2.2 (most := 1048576) (by omega)
    simp at h
    omega
theorem ZRow.kp {S : Nat → Prop} {w w' : World} {B : Nat} {v : Value} {l : List Int} (h : ZRow w B v l) (hk : Tp.Kp S w w') (hS : ∀ j, B ≤ j → j < w.heap.size → ¬ S j) : ZRow w' B v l := by
 have h0 : w.ownsRow B 3 1 v l.length (zCellsOf l) := h
 refine ⟨h0.1, ?_⟩
 rcases h0.2 with h2 | ⟨g, cap, cur, hv, hb, hh, hr⟩
 · exact .inl h2
 · have hlt := (h0.lt g (by rw [hv]; rfl))
   exact .inr ⟨g, cap, cur, hv, hb, (hk.block g hlt.2 (hS g hb hlt.2)).trans hh, hr⟩
def TapeE (w : World) (g : Nat) (k : Option Nat) (l : List Nat) (ok : Bool) : Prop := (ok = true ∧ Tp.TapeAt w g k l .nilIface) ∨ (ok = false ∧ ∃ T x, Tp.TapeAt w g k l (.iface T x))
theorem TapeE.kp {S : Nat → Prop} {w w' : World} {g : Nat} {k : Option Nat} {l : List Nat} {ok : Bool} (h : TapeE w g k l ok) (hk : Tp.Kp S w w') (hg : ¬ S g) (hr : ∀ j, k = some j → ¬ S j) : TapeE w' g k l ok := by
 rcases h with ⟨h1, h2⟩ | ⟨h1, T, x, h2⟩
 · exact .inl ⟨h1, h2.kp hk hg hr⟩
 · exact .inr ⟨h1, T, x, h2.kp hk hg hr⟩
theorem TapeE.lt {w : World} {g : Nat} {k : Option Nat} {l : List Nat} {ok : Bool} (h : TapeE w g k l ok) : g < w.heap.size := by
 rcases h with ⟨_, h2⟩ | ⟨_, T, x, h2⟩
 · exact h2.lt
 · exact h2.lt
theorem tape_any {w : World} {g : Nat} {k : Option Nat} {l : List Nat} {ok : Bool} {most : Int} (h : TapeE w g k l ok) (hs : Tp.Sml l) (hn : l.length ≤ 90000000) :
   Calls Tryz.prog 90 #[.pointer (some ⟨g, 0, none⟩), .int .i64 most] w fun e w' => e = .returned (.int .i64 (numStep l ok most).1) ∧ TapeE w' g k (numStep l ok most).2.1 (numStep l ok most).2.2 ∧ Tp.Kp (fun b => b = g) w w' := by
 rcases h with ⟨rfl, h2⟩ | ⟨rfl, T, x, h2⟩
 · refine (Tp.tape_number h2 hs hn).mono ?_
   rintro e w' ⟨hk, ⟨n, r, hl, hle, hlt, rfl, ht⟩ | ⟨hno, rfl, T, x, ht⟩⟩
   · rw [numStep_some hl hle hlt]
     exact ⟨rfl, .inl ⟨rfl, ht⟩, hk⟩
   · rw [numStep_none hno]
     exact ⟨rfl, .inr ⟨rfl, T, x, ht⟩, hk⟩
 · refine (Tp.tape_number_fault h2).mono ?_
   rintro e w' ⟨rfl, rfl⟩
   rw [numStep_no]
   exact ⟨rfl, .inr ⟨rfl, T, x, h2⟩, Tp.Kp.refl _ _⟩
def GetRel (w : World) (g : Nat) (kk : Option Nat) (l : List Nat) (k : Nat) (v i : Value) (wr : World) : Prop :=
 ∃ m, m + k = rdN l ∧ i = .int .i64 (m : Int) ∧ TapeE wr g kk (rd m (rd0 l)).2.1 (rd m (rd0 l)).2.2 ∧ ZRow wr w.heap.size v (rd m (rd0 l)).1 ∧ Tp.Kp (fun b => b = g) w wr
def RetGet (w : World) (l : List Nat) (e : Ending) (w' : World) : Prop :=
 ((rdAll l).2.2 = true ∧ ∃ v, e = .returned (.tuple #[v, .int .i64 0]) ∧ ZRow w' w.heap.size v (rdAll l).1) ∨ ((rdAll l).2.2 = false ∧ e = .returned (.tuple #[.slice none 0 0, .int .i64 10]))
set_option maxRecDepth 100000 in
set_option maxHeartbeats 1000000 in
theorem get_any {w : World} {g : Nat} {k : Option Nat} {l : List Nat} (ht : Tp.TapeAt w g k l .nilIface) (hs : Tp.Sml l) (hn : l.length ≤ 90000000) :
  Calls Tryz.prog 129 #[.pointer (some ⟨g, 0, none⟩)] w fun e w' => Tp.Kp (fun b => b = g) w w' ∧ TapeE w' g k (rdAll l).2.1 (rdAll l).2.2 ∧ RetGet w l e w' := by
 have hglt := ht.lt
 have HKL := Lib.hid ht.row_lt
 have HS := Lib.hid hs
 have H46 := tape_any (most := 6) (.inl ⟨rfl, ht⟩) hs hn
 rw [← rdN_int] at H46
 have H46 := Lib.hid H46
 have hN := rdN_le l
 have HEQ := Lib.hid (rdAll_eq l)
 clear ht hs
 obtain ⟨n, hnn⟩ : ∃ n, n = rdN l := ⟨_, rfl⟩
 have HNN := Lib.hid hnn
 rw [← hnn] at H46 hN
 clear hnn
 go_enter Tryz.func129, Tryz.ntmps129
 go_wp2_with fail
 refine H46.out.mono ?_
 rintro e w1 ⟨rfl, ht1, hk1⟩
 have HT1 : Hid (TapeE w1 g k (rd 0 (rd0 l)).2.1 (rd 0 (rd0 l)).2.2) := ht1
 have HK1 := Lib.hid hk1
 clear ht1 hk1 H46
 go_wp2_with fail
 go_loopg [4, 7] n (fun c v i wr => GetRel w g k l c v i wr)
 case atStart => exact ⟨0, by rw [HNN.out]; simp, rfl, HT1.out, World.ownsRow_nil _ _ _ _, HK1.out⟩
 case round =>
  obtain ⟨m, hmk, hi, htp, hrow, hkp⟩ := hrel
  subst hi
  have HT := Lib.hid htp
  have HROW := Lib.hid hrow
  have HK := Lib.hid hkp
  have hsz := hkp.size
  rw [← HNN.out] at hmk
  cases gk with
  | zero =>
   have hmn : m = n := by omega
   have HM : Hid (rd m (rd0 l) = rdAll l) := by rw [Hid, HEQ.out, hmn, HNN.out]
   have hge : ¬ m < n := by omega
   rw [HM.out] at htp hrow HT HROW
   obtain ⟨A4, c4, hv4, _⟩ := hrow.zs
   subst hv4
   rcases htp with ⟨hok, ht⟩ | ⟨hok, T, x, ht⟩
   · have H47 := Lib.hid (Tp.tape_err ht)
     have HOK := Lib.hid hok
     clear hrow hkp ht hok hmn hmk
     go_wp2_with (first | (go_at_call 126; refine H47.out.mono ?_; rintro e w' ⟨rfl, rfl⟩))
     go_ret2
     exact ⟨HK.out, HT.out, .inl ⟨HOK.out, _, rfl, HROW.out⟩⟩
   · have H47 := Lib.hid (Tp.tape_err ht)
     have HOK := Lib.hid hok
     clear hrow hkp ht hok hmn hmk
     go_wp2_with (first | (go_at_call 126; refine H47.out.mono ?_; rintro e w' ⟨rfl, rfl⟩))
     go_ret2
     exact ⟨HK.out, HT.out, .inr ⟨HOK.out, rfl⟩⟩
  | succ j =>
   have hm : m < n := by omega
   have hsm := rd_sml HS.out m
   have H46 := Lib.hid (tape_any (most := 1048576) htp hsm.1 (by omega))
   have HM := Lib.hid hmk
   obtain ⟨st, hst⟩ : ∃ st, st = rd m (rd0 l) := ⟨_, rfl⟩
   have HST := Lib.hid hst
   have hlen : st.1.length = m := by rw [hst]; exact (rd_wide l m).2
   rw [← hst] at H46 HROW HT
   obtain ⟨z, hz⟩ : ∃ z, z = (numStep st.2.1 st.2.2 1048576).1 := ⟨_, rfl⟩
   have HZ := Lib.hid hz
   rw [← hz] at H46
   clear hz hst htp hrow hkp hmk hsm
   go_wp2_with fail
   refine H46.out.mono ?_
   rintro e w2 ⟨rfl, ht2, hk2⟩
   have K3 : Hid (Tp.Kp (fun b => b = g) w w2) := HK.out.andThen hk2 (fun _ _ h => h)
   have R3 := Lib.hid (HROW.out.kp hk2 (fun j hj _ e => by omega))
   have T3 := Lib.hid ht2
   have hle : st.1.length + 1 ≤ 100000001 := by omega
   have hs3 := K3.out.size
   have hbase : w.heap.size ≤ (w2.alloc (.cells #[.int .i64 z] 3)).heap.size := by simp; omega
   clear hk2 ht2 H46
   go_wp2_with (first
     | (at_builtin; refine wpList_append_z rfl _ _ rfl w.heap.size _ st.1 rfl (World.ownsRow.alloc R3.out _) ⟨w2.heap.size, 0, none⟩ z rfl (cell_one_new _ _ _) hle hbase ?_))
   intro v' w4 hown hb4
   have R4 := Lib.hid hown
   have hall : Below w.heap.size w2 w4 := ((Below.refl _ _).alloc hs3 _).trans hb4
   have K4 : Hid (Tp.Kp (fun b => b = g) w w4) := ⟨hall.os.trans K3.out.os, hall.tape.trans K3.out.tape, hall.output.trans K3.out.output, Nat.le_trans K3.out.size hall.size, fun j hj hne => (hall.block j hj).trans (K3.out.block j hj hne)⟩
   have T4 := Lib.hid (T3.out.kp (S := fun j => w.heap.size ≤ j) ⟨hall.os, hall.tape, hall.output, hall.size, fun j _ hne => hall.block j (by omega)⟩ (by omega) (fun j hj => by have := HKL.out j hj; omega))
   clear hown hb4 hall
   go_wp2_with fail
   go_roundg j
   case measure => omega
   case rel =>
     refine ⟨m + 1, by have := HM.out; rw [← HNN.out]; omega, by go_num, ?_, ?_, K4.out⟩
     · rw [rd, rdStep_eq, ← HST.out]; exact T4.out
     · rw [rd, rdStep_eq, ← HST.out, ← HZ.out]; exact R4.out
end Go.Proofs.YtgcbfggoddkhnaaGreatDoor.Pa
namespace Go.Proofs.YtgcbfggoddkhnaaGreatDoor
open Go.RowKit
def catBytes (x : List UInt8) : List Nat := Tp.txt (str x)
def ownBytes (l : List (List UInt8)) : List Nat := Tp.enc l.length ++ l.flatMap catBytes
def PenB (w : World) (B g : Nat) (l : List Nat) : Prop := ∃ k, Tp.PenAt w g k l ∧ B ≤ g ∧ ∀ j, k = some j → B ≤ j
theorem PenB.step {w w' : World} {B g : Nat} {k : Option Nat} {l' : List Nat} (hg : B ≤ g) (hk : ∀ j, k = some j → B ≤ j) (hs : B ≤ w.heap.size) (h : Tp.Wrote w g k l' w') : PenB w' B g l' ∧ Below B w w' := by
 obtain ⟨k0, h1, h2, h3⟩ := h
 refine ⟨⟨k0, h1, hg, fun j hj => ?_⟩, h3.below hs fun i hi => ?_⟩
 · rcases h2 with h | ⟨i, h, hi⟩
   · exact hk j (h.symm.trans hj)
   · rw [h] at hj
     injection hj with hj
     omega
 · rcases hi with rfl | hi
   · exact hg
   · exact hk i hi
theorem PenB.kept {w w' : World} {B g : Nat} {l : List Nat} (h : PenB w B g l) (hb : Below w.heap.size w w') : PenB w' B g l := by
 obtain ⟨k, h1, h2, h3⟩ := h
 exact ⟨k, h1.kp (Tp.Kp.of_below hb (fun _ => False)) (fun h => h) (fun _ _ h => h), h2, h3⟩
def PutRel (w : World) (B g : Nat) (l : List (List UInt8)) (k : Nat) (i : Value) (wr : World) : Prop :=
 ∃ m, m + k = l.length ∧ i = .int .i64 (m : Int) ∧ PenB wr B g (Tp.enc l.length ++ (l.take m).flatMap catBytes) ∧ Below B w wr
end Go.Proofs.YtgcbfggoddkhnaaGreatDoor
