/- Lemmas for the law: Xd. -/
import Derived.Test.YtgcbfggoddkhnaaGreatDoorM07
import Derived.Test.YtgcbfggoddkhnaaGreatDoorM09
namespace Go.Proofs.YtgcbfggoddkhnaaGreatDoor
open Go.RowKit
theorem slv_step {W w1 : World} {F : Nat → Prop} {v : Value} {n : Nat} {cs : List Value} {b : Nat} (h : SlV W F v n cs) (hb : Below W.heap.size W w1) (hF : F b) (k : Nat) (u : Value) : SlV (w1.setCell ⟨b, k, none⟩ u) F v n cs :=
 h.kp ((Tp.Kp.of_below hb (fun x => x = b)).setCell (fun _ => rfl) u) (fun x _ e => by subst e; exact hF) (fun _ _ h => h)
theorem own_step {W w1 : World} {base : Nat} {e : TypeId} {size : Nat} {v : Value} {n : Nat} {xs : List Value} {b : Nat} (h : W.ownsRow base e size v n xs) (hb : Below W.heap.size W w1) (hB : b < base) (k : Nat) (u : Value) : (w1.setCell ⟨b, k, none⟩ u).ownsRow base e size v n xs :=
 own_kp h ((Tp.Kp.of_below hb (fun x => x = b)).setCell (fun _ => rfl) u) fun j hj e => by have := (h.lt j hj).1; omega
theorem below_step {w W w1 : World} {b : Nat} (h : Below w.heap.size w W) (hb : Below W.heap.size W w1) (hB : w.heap.size ≤ b) (k : Nat) (u : Value) : Below w.heap.size w (w1.setCell ⟨b, k, none⟩ u) := (next_below h hb).setCell hB u
theorem size_set (W : World) (a : Addr) (u : Value) : (W.setCell a u).heap.size = W.heap.size := by simp [World.setCell]
theorem kp_put10 (W : World) (b : Nat) (v0 v1 v2 v3 v4 v5 v6 v7 v8 v9 : Value) : Tp.Kp (fun y => y = b) W (put10 W b v0 v1 v2 v3 v4 v5 v6 v7 v8 v9) := by
 have h0 := (Tp.Kp.refl (fun y => y = b) W).setCell (p := ⟨b, 0, none⟩) (fun _ => rfl) v0
 have h1 := h0.setCell (p := ⟨b, 1, none⟩) (fun _ => rfl) v1
 have h2 := h1.setCell (p := ⟨b, 2, none⟩) (fun _ => rfl) v2
 have h3 := h2.setCell (p := ⟨b, 3, none⟩) (fun _ => rfl) v3
 have h4 := h3.setCell (p := ⟨b, 4, none⟩) (fun _ => rfl) v4
 have h5 := h4.setCell (p := ⟨b, 5, none⟩) (fun _ => rfl) v5
 have h6 := h5.setCell (p := ⟨b, 6, none⟩) (fun _ => rfl) v6
 have h7 := h6.setCell (p := ⟨b, 7, none⟩) (fun _ => rfl) v7
 have h8 := h7.setCell (p := ⟨b, 8, none⟩) (fun _ => rfl) v8
 exact h8.setCell (p := ⟨b, 9, none⟩) (fun _ => rfl) v9
def RetObj (w : World) (o : Ob) (e : Ending) (w' : World) : Prop :=
 Below w.heap.size w w' ∧ ∃ v vk, e = .returned v ∧ w'.ownsRow w.heap.size 85 3 vk o.kids.length (kidCells o.kids) ∧ ObjK w' (fun x => x < w.heap.size ∨ vk.ownBlock = some x) v vk o
def Cf (w : World) (vk : Value) (x : Nat) : Prop := x < w.heap.size + 2 ∨ vk.ownBlock = some x
def CpRel (w w6 : World) (o : Ob) (vm vk : Value) (cs zs : Array Value) (B : Nat) (k : Nat) (i : Value) (wr : World) : Prop :=
 ∃ (m : Nat) (ss : List Value), m + k = o.maps.length ∧ i = .int .i64 (m : Int) ∧ BoxAt wr w.heap.size cs 29 ∧ BoxAt wr (w.heap.size + 1) zs 29 ∧ wr.ownsRow B 45 3 vm o.maps.length (mapCells o.maps ss) ∧ ss.length = o.maps.length ∧
  (∀ (j : Nat) (x : Mp) (s : Value), o.maps[j]? = some x → ss[j]? = some s → (j < m → SlV wr (fun x => Cf w vk x ∨ vm.ownBlock = some x) s x.2.1.length (Pa.zCellsOf x.2.1)) ∧ SlV wr (fun x => vm.ownBlock = some x) s x.2.1.length (Pa.zCellsOf x.2.1)) ∧
  Tp.Kp (fun x => vm.ownBlock = some x) w6 wr
set_option maxRecDepth 100000 in
set_option maxHeartbeats 8000000 in
theorem copy_any {w : World} {F : Nat → Prop} {v : Value} {o : Ob} (h : ObjAt w F v o) (hw : WideO o) : Calls Tryz.prog 10 #[v] w (RetObj w o) := by
 obtain ⟨vk, ⟨vl, vb, vo, ve, vm, rfl, hlab, hbytes, hown, hentry, hmaps⟩, hkids⟩ := h
 obtain ⟨ss, hsegs, hmaps⟩ := hmaps.cells
 have hm1 := mapCells_one hsegs
 have hml := mapCells_length hsegs.1
 have wl := hw.lab.1
 have wk := hw.kids.1
 have wb := hw.bytes.1
 have wo := hw.own.1
 have we := hw.entry.1
 have wm := hw.maps.1
 obtain ⟨Al, cl, rfl, hlab'⟩ : ∃ A c, vl = .slice A o.lab.length c ∧ True := by obtain ⟨A, c, h, _⟩ := hlab; exact ⟨A, c, h, trivial⟩
 obtain ⟨Ak, ck, rfl, -⟩ : ∃ A c, vk = .slice A o.kids.length c ∧ True := by obtain ⟨A, c, h, _⟩ := hkids; exact ⟨A, c, h, trivial⟩
 obtain ⟨Ab, cb, rfl, -⟩ : ∃ A c, vb = .slice A o.bytes.length c ∧ True := by obtain ⟨A, c, h, _⟩ := hbytes; exact ⟨A, c, h, trivial⟩
 obtain ⟨Ao, co, rfl, -⟩ : ∃ A c, vo = .slice A o.own.length c ∧ True := by obtain ⟨A, c, h, _⟩ := hown; exact ⟨A, c, h, trivial⟩
 obtain ⟨Ae, ce, rfl, -⟩ : ∃ A c, ve = .slice A o.entry.length c ∧ True := by obtain ⟨A, c, h, _⟩ := hentry; exact ⟨A, c, h, trivial⟩
 obtain ⟨Am, cm, rfl, -⟩ : ∃ A c, vm = .slice A o.maps.length c ∧ True := by obtain ⟨A, c, h, _⟩ := hmaps; exact ⟨A, c, h, trivial⟩
 clear hlab'
 have R1 : Hid (∀ W, Below w.heap.size w W → Calls Tryz.prog 39 #[.slice Al o.lab.length cl] W (RetCells W 42 2 o.lab.length (entCells o.lab))) := fun W hW => clone39_any (F := No) (hlab.on hW fun _ _ h => h.elim) (entCells_length _) (entCells_one _) (by omega)
 have R2 : Hid (∀ W, Below w.heap.size w W → Calls Tryz.prog 40 #[.slice Ak o.kids.length ck] W (RetCells W 85 3 o.kids.length (kidCells o.kids))) := fun W hW => clone40_any (F := No) (hkids.on hW fun _ _ h => h.elim) (kidCells_length _) (kidCells_one _) (by omega)
 have R3 : Hid (∀ W, Below w.heap.size w W → Calls Tryz.prog 41 #[.slice Ab o.bytes.length cb] W (RetCells W 5 1 o.bytes.length (Tp.cellsOf o.bytes))) := fun W hW => clone41_any (F := No) (hbytes.on hW fun _ _ h => h.elim) (by rw [Tp.cellsOf_length]; omega) (Tp.cellsOf_one _) (by omega)
 have R4 : Hid (∀ W, Below w.heap.size w W → Calls Tryz.prog 42 #[.slice Ao o.own.length co] W (RetCells W 9 1 o.own.length (strCellsOf o.own))) := fun W hW => clone42_any (F := No) (hown.on hW fun _ _ h => h.elim) (by simp [strCellsOf]) (strCells_one _) (by omega)
 have R5 : Hid (∀ W, Below w.heap.size w W → Calls Tryz.prog 39 #[.slice Ae o.entry.length ce] W (RetCells W 42 2 o.entry.length (entCells o.entry))) := fun W hW => clone39_any (F := No) (hentry.on hW fun _ _ h => h.elim) (entCells_length _) (entCells_one _) (by omega)
 have R6 : Hid (∀ W, Below w.heap.size w W → Calls Tryz.prog 43 #[.slice Am o.maps.length cm] W (RetCells W 45 3 o.maps.length (mapCells o.maps ss))) := fun W hW => clone43_any (F := No) (hmaps.on hW fun _ _ h => h.elim) hml hm1 (by omega)
 have SG := Lib.hid hsegs
 have WM := Lib.hid hw.maps
 obtain ⟨W0, hW0⟩ : ∃ W0, W0 = (w.alloc (.cells #[.int .i64 o.kind, .slice Al o.lab.length cl, .slice Ak o.kids.length ck, .int .i64 o.next, .slice Ab o.bytes.length cb, .slice Ao o.own.length co, .int .i64 o.cats, .slice Ae o.entry.length ce, .int .i64 o.ring, .slice Am o.maps.length cm] 29)).alloc (.cells #[.int .i64 0, .slice none 0 0, .slice none 0 0, .int .i64 0, .slice none 0 0, .slice none 0 0, .int .i64 0, .slice none 0 0, .int .i64 0, .slice none 0 0] 29) := ⟨_, rfl⟩
 have b0 : Below w.heap.size w W0 := by rw [hW0]; exact ((Below.refl _ _).alloc (Nat.le_refl _) _).alloc (by simp) _
 have x0 : BoxAt W0 w.heap.size #[.int .i64 o.kind, .slice Al o.lab.length cl, .slice Ak o.kids.length ck, .int .i64 o.next, .slice Ab o.bytes.length cb, .slice Ao o.own.length co, .int .i64 o.cats, .slice Ae o.entry.length ce, .int .i64 o.ring, .slice Am o.maps.length cm] 29 := by rw [hW0]; exact (BoxAt.new _ _ _).alloc _
 have z0 : BoxAt W0 (w.heap.size + 1) #[.int .i64 0, .slice none 0 0, .slice none 0 0, .int .i64 0, .slice none 0 0, .slice none 0 0, .int .i64 0, .slice none 0 0, .int .i64 0, .slice none 0 0] 29 := by rw [hW0]; have := BoxAt.new (w.alloc (.cells #[.int .i64 o.kind, .slice Al o.lab.length cl, .slice Ak o.kids.length ck, .int .i64 o.next, .slice Ab o.bytes.length cb, .slice Ao o.own.length co, .int .i64 o.cats, .slice Ae o.entry.length ce, .int .i64 o.ring, .slice Am o.maps.length cm] 29)) #[.int .i64 0, .slice none 0 0, .slice none 0 0, .int .i64 0, .slice none 0 0, .slice none 0 0, .int .i64 0, .slice none 0 0, .int .i64 0, .slice none 0 0] 29; simpa using this
 have s0 : w.heap.size + 1 < W0.heap.size := z0.lt
 have H := R1.out W0 b0
 rw [hW0] at H
 have H1 := Lib.hid H
 have HW0 := Lib.hid hW0
 have B0 := Lib.hid b0
 have X0 := Lib.hid x0
 have Z0 := Lib.hid z0
 have S0 := Lib.hid s0
 clear hlab hbytes hown hentry hmaps hkids hm1 hml hw hsegs hW0 b0 x0 z0 s0 H
 go_enter Tryz.func10, Tryz.ntmps10
 go_wp2_with fail
 refine H1.out.mono ?_
 rintro en w1 ⟨hb, v1, rfl, hr⟩
 rw [← HW0.out] at hb hr
 obtain ⟨A1, c1, rfl⟩ : ∃ A c, v1 = .slice A o.lab.length c := by obtain ⟨A, c, h, _⟩ := slv_row hr; exact ⟨A, c, h⟩
 have hx := X0.out.on hb
 have hz := Z0.out.on hb
 obtain ⟨W1, hW⟩ : ∃ W, W = w1.setCell ⟨w.heap.size, 1, none⟩ (.slice A1 o.lab.length c1) := ⟨_, rfl⟩
 have B1 : Hid (Below w.heap.size w W1) := by rw [hW]; exact below_step B0.out hb (Nat.le_refl _) _ _
 have X1 : Hid (BoxAt W1 w.heap.size #[.int .i64 o.kind, .slice A1 o.lab.length c1, .slice Ak o.kids.length ck, .int .i64 o.next, .slice Ab o.bytes.length cb, .slice Ao o.own.length co, .int .i64 o.cats, .slice Ae o.entry.length ce, .int .i64 o.ring, .slice Am o.maps.length cm] 29) := by rw [hW]; exact hx.setL 1 _
 have Z1 : Hid (BoxAt W1 (w.heap.size + 1) #[.int .i64 0, .slice none 0 0, .slice none 0 0, .int .i64 0, .slice none 0 0, .slice none 0 0, .int .i64 0, .slice none 0 0, .int .i64 0, .slice none 0 0] 29) := by rw [hW]; exact hz.far (by simp) _
 have hlt : w.heap.size + 1 < W0.heap.size := Z0.out.lt
 have S1 : Hid (W0.heap.size ≤ W1.heap.size) := by rw [hW, size_set]; exact hb.size
 have hrW : W1.ownsRow W0.heap.size 42 2 (.slice A1 o.lab.length c1) o.lab.length (entCells o.lab) := by rw [hW]; exact own_step hr (Below.refl _ _) (by omega) _ _
 have O1 := Lib.hid hrW
 have H := R2.out W1 B1.out
 obtain ⟨q0, q1, q2, q3, q4, q5, q6, q7, q8, q9⟩ := box10 hx
 have fr := hx.frozen
 have HH := Lib.hid H
 have HW := Lib.hid hW
 clear H hb hr hx hz hW hlt hrW
 go_wp2_with fail
 rw [← HW.out]
 refine HH.out.mono ?_
 clear q0 q1 q2 q3 q4 q5 q6 q7 q8 q9 fr HH HW
 rintro en w2 ⟨hb, v2, rfl, hr⟩
 obtain ⟨A2, c2, rfl⟩ : ∃ A c, v2 = .slice A o.kids.length c := by obtain ⟨A, c, h, _⟩ := slv_row hr; exact ⟨A, c, h⟩
 have hx := X1.out.on hb
 have hz := Z1.out.on hb
 obtain ⟨W2, hW⟩ : ∃ W, W = w2.setCell ⟨w.heap.size, 2, none⟩ (.slice A2 o.kids.length c2) := ⟨_, rfl⟩
 have B2 : Hid (Below w.heap.size w W2) := by rw [hW]; exact below_step B1.out hb (Nat.le_refl _) _ _
 have X2 : Hid (BoxAt W2 w.heap.size #[.int .i64 o.kind, .slice A1 o.lab.length c1, .slice A2 o.kids.length c2, .int .i64 o.next, .slice Ab o.bytes.length cb, .slice Ao o.own.length co, .int .i64 o.cats, .slice Ae o.entry.length ce, .int .i64 o.ring, .slice Am o.maps.length cm] 29) := by rw [hW]; exact hx.setL 2 _
 have Z2 : Hid (BoxAt W2 (w.heap.size + 1) #[.int .i64 0, .slice none 0 0, .slice none 0 0, .int .i64 0, .slice none 0 0, .slice none 0 0, .int .i64 0, .slice none 0 0, .int .i64 0, .slice none 0 0] 29) := by rw [hW]; exact hz.far (by simp) _
 have hlt : w.heap.size + 1 < W1.heap.size := Z1.out.lt
 have S2 : Hid (W1.heap.size ≤ W2.heap.size) := by rw [hW, size_set]; exact hb.size
 have hrW : W2.ownsRow W1.heap.size 85 3 (.slice A2 o.kids.length c2) o.kids.length (kidCells o.kids) := by rw [hW]; exact own_step hr (Below.refl _ _) (by omega) _ _
 have O2 := Lib.hid hrW
 have G2 : Hid (∀ j, (.slice A2 o.kids.length c2 : Value).ownBlock = some j → W1.heap.size ≤ j ∧ j < W2.heap.size) := fun j hj => hrW.lt j hj
 have L1 : Hid (SlV W2 (Cf w (.slice A2 o.kids.length c2)) (.slice A1 o.lab.length c1) o.lab.length (entCells o.lab)) := by
  rw [hW]
  refine (slv_row O1.out).kp ((Tp.Kp.of_below hb (fun x => x = w.heap.size)).setCell (fun _ => rfl) _) (fun x _ e => by subst e; have := S0.out; omega) (fun x hx h => ?_)
  rcases h with h | h
  · have := S0.out; omega
  · have := (G2.out x h).1; omega
 have H := R3.out W2 B2.out
 obtain ⟨q0, q1, q2, q3, q4, q5, q6, q7, q8, q9⟩ := box10 hx
 have fr := hx.frozen
 have HH := Lib.hid H
 have HW := Lib.hid hW
 clear H hb hr hx hz hW hlt hrW
 go_wp2_with fail
 rw [← HW.out]
 refine HH.out.mono ?_
 clear q0 q1 q2 q3 q4 q5 q6 q7 q8 q9 fr HH HW
 rintro en w3 ⟨hb, v3, rfl, hr⟩
 obtain ⟨A3, c3, rfl⟩ : ∃ A c, v3 = .slice A o.bytes.length c := by obtain ⟨A, c, h, _⟩ := slv_row hr; exact ⟨A, c, h⟩
 have hx := X2.out.on hb
 have hz := Z2.out.on hb
 obtain ⟨W3, hW⟩ : ∃ W, W = w3.setCell ⟨w.heap.size, 4, none⟩ (.slice A3 o.bytes.length c3) := ⟨_, rfl⟩
 have B3 : Hid (Below w.heap.size w W3) := by rw [hW]; exact below_step B2.out hb (Nat.le_refl _) _ _
 have X3 : Hid (BoxAt W3 w.heap.size #[.int .i64 o.kind, .slice A1 o.lab.length c1, .slice A2 o.kids.length c2, .int .i64 o.next, .slice A3 o.bytes.length c3, .slice Ao o.own.length co, .int .i64 o.cats, .slice Ae o.entry.length ce, .int .i64 o.ring, .slice Am o.maps.length cm] 29) := by rw [hW]; exact hx.setL 4 _
 have Z3 : Hid (BoxAt W3 (w.heap.size + 1) #[.int .i64 0, .slice none 0 0, .slice none 0 0, .int .i64 0, .slice none 0 0, .slice none 0 0, .int .i64 0, .slice none 0 0, .int .i64 0, .slice none 0 0] 29) := by rw [hW]; exact hz.far (by simp) _
 have hlt : w.heap.size + 1 < W2.heap.size := Z2.out.lt
 have S3 : Hid (W2.heap.size ≤ W3.heap.size) := by rw [hW, size_set]; exact hb.size
 have hrW : W3.ownsRow W2.heap.size 5 1 (.slice A3 o.bytes.length c3) o.bytes.length (Tp.cellsOf o.bytes) := by rw [hW]; exact own_step hr (Below.refl _ _) (by omega) _ _
 have L1' : Hid (SlV W3 (Cf w (.slice A2 o.kids.length c2)) (.slice A1 o.lab.length c1) o.lab.length (entCells o.lab)) := by rw [hW]; exact slv_step L1.out hb (.inl (by omega)) _ _
 clear L1
 have L1 := L1'
 clear L1'
 have O2' : Hid (W3.ownsRow W1.heap.size 85 3 (.slice A2 o.kids.length c2) o.kids.length (kidCells o.kids)) := by rw [hW]; exact own_step O2.out hb (by have := X1.out.lt; omega) _ _
 clear O2
 have O2 := O2'
 clear O2'
 have L3 : Hid (SlV W3 (Cf w (.slice A2 o.kids.length c2)) (.slice A3 o.bytes.length c3) o.bytes.length (Tp.cellsOf o.bytes)) := (slv_row hrW).on (Below.refl _ _) fun x _ h => by
  rcases h with h | h
  · omega
  · have := (G2.out x h).2;  omega
 have H := R4.out W3 B3.out
 obtain ⟨q0, q1, q2, q3, q4, q5, q6, q7, q8, q9⟩ := box10 hx
 have fr := hx.frozen
 have HH := Lib.hid H
 have HW := Lib.hid hW
 clear H hb hr hx hz hW hlt hrW
 go_wp2_with fail
 rw [← HW.out]
 refine HH.out.mono ?_
 clear q0 q1 q2 q3 q4 q5 q6 q7 q8 q9 fr HH HW
 rintro en w4 ⟨hb, v4, rfl, hr⟩
 obtain ⟨A4, c4, rfl⟩ : ∃ A c, v4 = .slice A o.own.length c := by obtain ⟨A, c, h, _⟩ := slv_row hr; exact ⟨A, c, h⟩
 have hx := X3.out.on hb
 have hz := Z3.out.on hb
 obtain ⟨W4, hW⟩ : ∃ W, W = w4.setCell ⟨w.heap.size, 5, none⟩ (.slice A4 o.own.length c4) := ⟨_, rfl⟩
 have B4 : Hid (Below w.heap.size w W4) := by rw [hW]; exact below_step B3.out hb (Nat.le_refl _) _ _
 have X4 : Hid (BoxAt W4 w.heap.size #[.int .i64 o.kind, .slice A1 o.lab.length c1, .slice A2 o.kids.length c2, .int .i64 o.next, .slice A3 o.bytes.length c3, .slice A4 o.own.length c4, .int .i64 o.cats, .slice Ae o.entry.length ce, .int .i64 o.ring, .slice Am o.maps.length cm] 29) := by rw [hW]; exact hx.setL 5 _
 have Z4 : Hid (BoxAt W4 (w.heap.size + 1) #[.int .i64 0, .slice none 0 0, .slice none 0 0, .int .i64 0, .slice none 0 0, .slice none 0 0, .int .i64 0, .slice none 0 0, .int .i64 0, .slice none 0 0] 29) := by rw [hW]; exact hz.far (by simp) _
 have hlt : w.heap.size + 1 < W3.heap.size := Z3.out.lt
 have S4 : Hid (W3.heap.size ≤ W4.heap.size) := by rw [hW, size_set]; exact hb.size
 have hrW : W4.ownsRow W3.heap.size 9 1 (.slice A4 o.own.length c4) o.own.length (strCellsOf o.own) := by rw [hW]; exact own_step hr (Below.refl _ _) (by omega) _ _
 have L1' : Hid (SlV W4 (Cf w (.slice A2 o.kids.length c2)) (.slice A1 o.lab.length c1) o.lab.length (entCells o.lab)) := by rw [hW]; exact slv_step L1.out hb (.inl (by omega)) _ _
 clear L1
 have L1 := L1'
 clear L1'
 have O2' : Hid (W4.ownsRow W1.heap.size 85 3 (.slice A2 o.kids.length c2) o.kids.length (kidCells o.kids)) := by rw [hW]; exact own_step O2.out hb (by have := X1.out.lt; omega) _ _
 clear O2
 have O2 := O2'
 clear O2'
 have L3' : Hid (SlV W4 (Cf w (.slice A2 o.kids.length c2)) (.slice A3 o.bytes.length c3) o.bytes.length (Tp.cellsOf o.bytes)) := by rw [hW]; exact slv_step L3.out hb (.inl (by omega)) _ _
 clear L3
 have L3 := L3'
 clear L3'
 have L4 : Hid (SlV W4 (Cf w (.slice A2 o.kids.length c2)) (.slice A4 o.own.length c4) o.own.length (strCellsOf o.own)) := (slv_row hrW).on (Below.refl _ _) fun x _ h => by
  rcases h with h | h
  · omega
  · have := (G2.out x h).2; have := S3.out; omega
 have H := R5.out W4 B4.out
 obtain ⟨q0, q1, q2, q3, q4, q5, q6, q7, q8, q9⟩ := box10 hx
 have fr := hx.frozen
 have HH := Lib.hid H
 have HW := Lib.hid hW
 clear H hb hr hx hz hW hlt hrW
 go_wp2_with fail
 rw [← HW.out]
 refine HH.out.mono ?_
 clear q0 q1 q2 q3 q4 q5 q6 q7 q8 q9 fr HH HW
 rintro en w5 ⟨hb, v5, rfl, hr⟩
 obtain ⟨A5, c5, rfl⟩ : ∃ A c, v5 = .slice A o.entry.length c := by obtain ⟨A, c, h, _⟩ := slv_row hr; exact ⟨A, c, h⟩
 have hx := X4.out.on hb
 have hz := Z4.out.on hb
 obtain ⟨W5, hW⟩ : ∃ W, W = w5.setCell ⟨w.heap.size, 7, none⟩ (.slice A5 o.entry.length c5) := ⟨_, rfl⟩
 have B5 : Hid (Below w.heap.size w W5) := by rw [hW]; exact below_step B4.out hb (Nat.le_refl _) _ _
 have X5 : Hid (BoxAt W5 w.heap.size #[.int .i64 o.kind, .slice A1 o.lab.length c1, .slice A2 o.kids.length c2, .int .i64 o.next, .slice A3 o.bytes.length c3, .slice A4 o.own.length c4, .int .i64 o.cats, .slice A5 o.entry.length c5, .int .i64 o.ring, .slice Am o.maps.length cm] 29) := by rw [hW]; exact hx.setL 7 _
 have Z5 : Hid (BoxAt W5 (w.heap.size + 1) #[.int .i64 0, .slice none 0 0, .slice none 0 0, .int .i64 0, .slice none 0 0, .slice none 0 0, .int .i64 0, .slice none 0 0, .int .i64 0, .slice none 0 0] 29) := by rw [hW]; exact hz.far (by simp) _
 have hlt : w.heap.size + 1 < W4.heap.size := Z4.out.lt
 have S5 : Hid (W4.heap.size ≤ W5.heap.size) := by rw [hW, size_set]; exact hb.size
 have hrW : W5.ownsRow W4.heap.size 42 2 (.slice A5 o.entry.length c5) o.entry.length (entCells o.entry) := by rw [hW]; exact own_step hr (Below.refl _ _) (by omega) _ _
 have L1' : Hid (SlV W5 (Cf w (.slice A2 o.kids.length c2)) (.slice A1 o.lab.length c1) o.lab.length (entCells o.lab)) := by rw [hW]; exact slv_step L1.out hb (.inl (by omega)) _ _
 clear L1
 have L1 := L1'
 clear L1'
 have O2' : Hid (W5.ownsRow W1.heap.size 85 3 (.slice A2 o.kids.length c2) o.kids.length (kidCells o.kids)) := by rw [hW]; exact own_step O2.out hb (by have := X1.out.lt; omega) _ _
 clear O2
 have O2 := O2'
 clear O2'
 have L3' : Hid (SlV W5 (Cf w (.slice A2 o.kids.length c2)) (.slice A3 o.bytes.length c3) o.bytes.length (Tp.cellsOf o.bytes)) := by rw [hW]; exact slv_step L3.out hb (.inl (by omega)) _ _
 clear L3
 have L3 := L3'
 clear L3'
 have L4' : Hid (SlV W5 (Cf w (.slice A2 o.kids.length c2)) (.slice A4 o.own.length c4) o.own.length (strCellsOf o.own)) := by rw [hW]; exact slv_step L4.out hb (.inl (by omega)) _ _
 clear L4
 have L4 := L4'
 clear L4'
 have L5 : Hid (SlV W5 (Cf w (.slice A2 o.kids.length c2)) (.slice A5 o.entry.length c5) o.entry.length (entCells o.entry)) := (slv_row hrW).on (Below.refl _ _) fun x _ h => by
  rcases h with h | h
  · omega
  · have := (G2.out x h).2; have := S3.out; have := S4.out; omega
 have H := R6.out W5 B5.out
 obtain ⟨q0, q1, q2, q3, q4, q5, q6, q7, q8, q9⟩ := box10 hx
 have fr := hx.frozen
 have HH := Lib.hid H
 have HW := Lib.hid hW
 clear H hb hr hx hz hW hlt hrW
 go_wp2_with fail
 rw [← HW.out]
 refine HH.out.mono ?_
 clear q0 q1 q2 q3 q4 q5 q6 q7 q8 q9 fr HH HW
 rintro en w6 ⟨hb, v6, rfl, hr⟩
 obtain ⟨A6, c6, rfl⟩ : ∃ A c, v6 = .slice A o.maps.length c := by obtain ⟨A, c, h, _⟩ := slv_row hr; exact ⟨A, c, h⟩
 have hx := X5.out.on hb
 have hz := Z5.out.on hb
 obtain ⟨W6, hW⟩ : ∃ W, W = w6.setCell ⟨w.heap.size, 9, none⟩ (.slice A6 o.maps.length c6) := ⟨_, rfl⟩
 have B6 : Hid (Below w.heap.size w W6) := by rw [hW]; exact below_step B5.out hb (Nat.le_refl _) _ _
 have X6 : Hid (BoxAt W6 w.heap.size #[.int .i64 o.kind, .slice A1 o.lab.length c1, .slice A2 o.kids.length c2, .int .i64 o.next, .slice A3 o.bytes.length c3, .slice A4 o.own.length c4, .int .i64 o.cats, .slice A5 o.entry.length c5, .int .i64 o.ring, .slice A6 o.maps.length c6] 29) := by rw [hW]; exact hx.setL 9 _
 have Z6 : Hid (BoxAt W6 (w.heap.size + 1) #[.int .i64 0, .slice none 0 0, .slice none 0 0, .int .i64 0, .slice none 0 0, .slice none 0 0, .int .i64 0, .slice none 0 0, .int .i64 0, .slice none 0 0] 29) := by rw [hW]; exact hz.far (by simp) _
 have hlt : w.heap.size + 1 < W5.heap.size := Z5.out.lt
 have S6 : Hid (W5.heap.size ≤ W6.heap.size) := by rw [hW, size_set]; exact hb.size
 have hrW : W6.ownsRow W5.heap.size 45 3 (.slice A6 o.maps.length c6) o.maps.length (mapCells o.maps ss) := by rw [hW]; exact own_step hr (Below.refl _ _) (by omega) _ _
 have O6 := Lib.hid hrW
 have K56 : Hid (Tp.Kp (fun x => x = w.heap.size) W5 W6) := by rw [hW]; exact (Tp.Kp.of_below hb (fun x => x = w.heap.size)).setCell (fun _ => rfl) _
 have G6 : Hid (∀ j, (.slice A6 o.maps.length c6 : Value).ownBlock = some j → W5.heap.size ≤ j) := fun j hj => (hrW.lt j hj).1
 have G7 : Hid (W2.heap.size ≤ W5.heap.size ∧ W5.heap.size ≤ W6.heap.size ∧ w.heap.size + 1 < W5.heap.size) := by have := S3.out; have := S4.out; have := S5.out; have := S6.out; exact ⟨by omega, by omega, by omega⟩
 have SG6 : Hid (∀ (j : Nat) (x : Mp) (s : Value), o.maps[j]? = some x → ss[j]? = some s → SlV W6 (fun x => (.slice A6 o.maps.length c6 : Value).ownBlock = some x) s x.2.1.length (Pa.zCellsOf x.2.1)) := fun j x s hx hs => (SG.out.2 j x s hx hs).on B6.out fun y hy h => by have := G6.out y h; have := G7.out; omega
 obtain ⟨q0, q1, q2, q3, q4, q5, q6, q7, q8, q9⟩ := box10 hx
 have fr := hx.frozen
 have HW := Lib.hid hW
 obtain ⟨zs, hzs⟩ : ∃ zs : Array Value, zs = #[.int .i64 0, .slice none 0 0, .slice none 0 0, .int .i64 0, .slice none 0 0, .slice none 0 0, .int .i64 0, .slice none 0 0, .int .i64 0, .slice none 0 0] := ⟨_, rfl⟩
 obtain ⟨cs, hcs⟩ : ∃ cs : Array Value, cs = #[.int .i64 o.kind, .slice A1 o.lab.length c1, .slice A2 o.kids.length c2, .int .i64 o.next, .slice A3 o.bytes.length c3, .slice A4 o.own.length c4, .int .i64 o.cats, .slice A5 o.entry.length c5, .int .i64 o.ring, .slice A6 o.maps.length c6] := ⟨_, rfl⟩
 have ZS := Lib.hid hzs
 have CS := Lib.hid hcs
 have X6c : Hid (BoxAt W6 w.heap.size cs 29) := by rw [hcs]; exact X6.out
 have Z6c : Hid (BoxAt W6 (w.heap.size + 1) zs 29) := by rw [hzs]; exact Z6.out
 clear hb hr hx hz hW hlt hrW hzs hcs
 go_wp2_with fail
 rw [← HW.out]
 clear q0 q1 q2 q3 q4 q5 q6 q7 q8 q9 fr HW
 go_loopg [32] o.maps.length (fun k i wr => CpRel w W6 o (.slice A6 o.maps.length c6) (.slice A2 o.kids.length c2) cs zs W5.heap.size k i wr)
 case atStart => exact ⟨0, ss, by simp, rfl, X6c.out, Z6c.out, O6.out, SG.out.1, fun j x s hx hs => ⟨fun h => absurd h (by omega), SG6.out j x s hx hs⟩, Tp.Kp.refl _ _⟩
 case round =>
  obtain ⟨m, ts, hmk, hi, hx, hz, hrow, htl, hseg, hkp⟩ := hrel
  subst hi
  cases gk with
  | zero =>
    have hge : o.maps.length ≤ m := by omega
    rw [CS.out] at hx
    have hx10 := box10 hx
    obtain ⟨q0, q1, q2, q3, q4, q5, q6, q7, q8, q9⟩ := hx10
    rw [ZS.out] at hz
    obtain ⟨r0, r1, r2, r3, r4, r5, r6, r7, r8, r9⟩ := box10 hz
    have fr := hz.frozen
    have HZ := Lib.hid hz
    have g7 := G7.out
    have hbw : Below w.heap.size w wr := B6.out.trans (hkp.below (by have := B6.out.size; omega) fun y hy => by have := G6.out y hy; omega)
    have HBW := Lib.hid hbw
    have FIN : Hid (∀ WF, Tp.Kp (fun y => y = w.heap.size + 1) wr WF → WF.ownsRow w.heap.size 85 3 (.slice A2 o.kids.length c2) o.kids.length (kidCells o.kids) ∧ ObjK WF (fun x => x < w.heap.size ∨ (.slice A2 o.kids.length c2 : Value).ownBlock = some x) (.agg #[.int .i64 o.kind, .slice A1 o.lab.length c1, .slice A2 o.kids.length c2, .int .i64 o.next, .slice A3 o.bytes.length c3, .slice A4 o.own.length c4, .int .i64 o.cats, .slice A5 o.entry.length c5, .int .i64 o.ring, .slice A6 o.maps.length c6]) (.slice A2 o.kids.length c2) o) := fun WF hK => by
     have K5 : Tp.Kp (fun y => y = w.heap.size ∨ (.slice A6 o.maps.length c6 : Value).ownBlock = some y ∨ y = w.heap.size + 1) W5 WF := ((K56.out.more (fun _ _ h => .inl h)).andThen hkp (fun _ _ h => .inr (.inl h))).andThen hK (fun _ _ h => .inr (.inr h))
     have hno : ∀ y, (.slice A2 o.kids.length c2 : Value).ownBlock = some y → ¬ (y = w.heap.size ∨ (.slice A6 o.maps.length c6 : Value).ownBlock = some y ∨ y = w.heap.size + 1) := fun y hy h => by
       have h1 := G2.out y hy
       have h2 := S1.out
       have h3 := S0.out
       rcases h with h | h | h
       · omega
       · have := G6.out y h
         omega
       · omega
     have hS : ∀ y, y < W5.heap.size → (y = w.heap.size ∨ (.slice A6 o.maps.length c6 : Value).ownBlock = some y ∨ y = w.heap.size + 1) → Cf w (.slice A2 o.kids.length c2) y := fun y hy h => by
       rcases h with h | h | h
       · exact .inl (by omega)
       · have := G6.out y h
         omega
       · exact .inl (by omega)
     have hF : ∀ y, y < W5.heap.size → (y < w.heap.size ∨ (.slice A2 o.kids.length c2 : Value).ownBlock = some y) → Cf w (.slice A2 o.kids.length c2) y := fun y _ h => h.imp (fun h => by omega) id
     refine ⟨own_base (own_kp O2.out K5 hno) (by have := S1.out; have := S0.out; omega), _, _, _, _, _, rfl, L1.out.kp K5 hS hF, L3.out.kp K5 hS hF, L4.out.kp K5 hS hF, L5.out.kp K5 hS hF, mapsV_of (ss := ts) ⟨htl, fun j x s hj hs => ?_⟩ ?_⟩
     · refine ((hseg j x s hj hs).1 ?_).kp hK (fun y _ h => .inl (.inl (by omega))) (fun y _ h => .inl (h.imp (fun h => by omega) id))
       have := (List.getElem?_eq_some_iff.1 hj).1
       omega
     · refine (slv_row hrow).kp hK (fun y _ h => by omega) (fun y _ h => ?_)
       rcases h with h | h
       · omega
       · have := (G2.out y h).2
         omega
    clear hx hz hrow hseg hkp hbw
    go_wp2_with fail
    refine bodyPost_ret (results_cell_row rfl _ _ (w.heap.size + 1) 29 #[.int .i64 o.kind, .slice A1 o.lab.length c1, .slice A2 o.kids.length c2, .int .i64 o.next, .slice A3 o.bytes.length c3, .slice A4 o.own.length c4, .int .i64 o.cats, .slice A5 o.entry.length c5, .int .i64 o.ring, .slice A6 o.maps.length c6] (0, 0) _ rfl (HZ.out.set10 _ _ _ _ _ _ _ _ _ _) Tryz.underlying29 rfl (by kernel_rfl)) rfl ?_
    exact ⟨below_put10 HBW.out (by omega) _ _ _ _ _ _ _ _ _ _, _, _, rfl, (FIN.out _ (kp_put10 _ _ _ _ _ _ _ _ _ _ _ _)).1, (FIN.out _ (kp_put10 _ _ _ _ _ _ _ _ _ _ _ _)).2⟩
  | succ j =>
    have hm : m < o.maps.length := by omega
    obtain ⟨x, hxm⟩ : ∃ x, o.maps[m]? = some x := ⟨_, List.getElem?_eq_getElem hm⟩
    obtain ⟨s, hsm⟩ : ∃ s, ts[m]? = some s := ⟨_, List.getElem?_eq_getElem (by omega)⟩
    have hsl := (hseg m x s hxm hsm).2
    have hwx := WM.out.2 x (List.mem_of_getElem? hxm)
    obtain ⟨e1, e2, e3⟩ := mapCells_at hxm hsm
    obtain ⟨at1, sg, wf⟩ := x
    obtain ⟨As, cs2, rfl, hsn, hsc, hss⟩ := hsl
    have hvm : ∃ gm, A6 = some ⟨gm, 0, none⟩ := by
     rcases hrow.2 with ⟨h, h0⟩ | ⟨gm, cap, cur, h, _⟩
     · omega
     · injection h with h _ _
       exact ⟨gm, h⟩
    obtain ⟨gm, rfl⟩ := hvm
    have hgm := hrow.lt gm rfl
    have d1 := (hrow.cellAt (m * 3) (by omega)).trans e1
    have d2 := (hrow.cellAt (m * 3 + 1) (by omega)).trans e2
    have d3 := (hrow.cellAt (m * 3 + 2) (by omega)).trans e3
    have hx9 := hx.cell (k := 9) (v := .slice (some ⟨gm, 0, none⟩) o.maps.length c6) (by rw [CS.out]; rfl)
    obtain ⟨V1, hV1⟩ : ∃ V1, V1 = wr.alloc (.cells #[.int .i64 at1, .slice As sg.length cs2, .bool wf] 45) := ⟨_, rfl⟩
    have hbV : Below wr.heap.size wr V1 := by rw [hV1]; exact (Below.refl _ _).alloc (Nat.le_refl _) _
    have hxV := hx.on hbV
    have k9 : V1.cell? ⟨w.heap.size, 9, none⟩ = some (.slice (some ⟨gm, 0, none⟩) o.maps.length c6) := hxV.cell (by rw [CS.out]; rfl)
    have kv : V1.cell? ⟨wr.heap.size, 1, none⟩ = some (.slice As sg.length cs2) := by rw [hV1]; exact (BoxAt.new _ _ _).cell rfl
    have hsV : V1.heap.size = wr.heap.size + 1 := by rw [hV1]; simp
    have H44 : Hid (Calls Tryz.prog 44 #[.slice As sg.length cs2] V1.drew fun e w' => (RetCells V1 3 1 sg.length (Pa.zCellsOf sg) e w') ∧ w'.cell? ⟨w.heap.size, 9, none⟩ = some (.slice (some ⟨gm, 0, none⟩) o.maps.length c6) ∧ w'.cell? ⟨wr.heap.size, 1, none⟩ = some (.slice As sg.length cs2) ∧
       w'.cell? ⟨gm, m * 3 + 1, none⟩ = some (.slice As sg.length cs2) ∧ w'.frozen? ⟨gm, m * 3 + 1, none⟩ = false) := by
     refine (clone44_any (F := No) (w := V1.drew) (SlV.on (w := wr) (w' := V1.drew) ⟨As, cs2, rfl, hsn, hsc, hss⟩ hbV.drew fun _ _ h => h.elim) (by simp [Pa.zCellsOf]) (Pa.zCells_one _) (by have := hwx.2.1; simp only at this; omega)).mono ?_
     rintro e w' ⟨hb, v, rfl, hr⟩
     have hb : Below V1.heap.size V1 w' := ⟨hb.os, hb.tape, hb.output, hb.size, hb.block⟩
     have hrg := own_on (own_on hrow hbV) hb
     exact ⟨⟨hb, v, rfl, hr⟩, (hb.cell (p := ⟨w.heap.size, 9, none⟩) hxV.lt).trans k9, (hb.cell (p := ⟨wr.heap.size, 1, none⟩) (show wr.heap.size < V1.heap.size by omega)).trans kv, (hrg.cellAt (m * 3 + 1) (by omega)).trans e2, hrg.frozenAt _⟩
    have HMK := Lib.hid hmk
    have HROW := Lib.hid hrow
    have HSEG := Lib.hid hseg
    have HTL := Lib.hid htl
    have HKP := Lib.hid hkp
    have HX := Lib.hid hx
    have HZ := Lib.hid hz
    have HV1 := Lib.hid hV1
    have HBV := Lib.hid hbV
    have HGM := Lib.hid hgm
    have HXM := Lib.hid hxm
    have HSM := Lib.hid hsm
    have hxlt := hx.lt
    have g7 := G7.out
    have hne1 : ¬ gm = w.heap.size := by omega
    have hne2 : ¬ gm = wr.heap.size := by omega
    clear hmk hrow hseg htl hkp hx hz hsm hxm e1 e2 e3 hbV hxV hwx hV1 hsV
    go_wp2_with fail
    rw [← HV1.out]
    have j9 : V1.drew.cell? ⟨w.heap.size, 9, none⟩ = some (.slice (some ⟨gm, 0, none⟩) o.maps.length c6) := k9
    have jv : V1.drew.cell? ⟨wr.heap.size, 1, none⟩ = some (.slice As sg.length cs2) := kv
    go_region_held3 (fun W => W.cell? ⟨w.heap.size, 9, none⟩ = some (.slice (some ⟨gm, 0, none⟩) o.maps.length c6) ∧ W.cell? ⟨wr.heap.size, 1, none⟩ = some (.slice As sg.length cs2))
     (first
       | with_reducible exact ⟨j9, jv⟩
       | with_reducible exact ⟨h9, hv⟩
       | with_reducible exact hst _)
     (first
       | (go_at_call 44; refine H44.out.mono ?_; rintro e w7 ⟨⟨hb7, v7, rfl, hr7⟩, h9, hv, hc7, hf7⟩; obtain ⟨A7, c7, rfl⟩ : ∃ A c, v7 = .slice A sg.length c := (by obtain ⟨A, c, h, _⟩ := slv_row hr7; exact ⟨A, c, h⟩); have hst := fun u => show (w7.setCell ⟨gm, m * 3 + 1, none⟩ u).cell? ⟨w.heap.size, 9, none⟩ = some (.slice (some ⟨gm, 0, none⟩) o.maps.length c6) ∧ (w7.setCell ⟨gm, m * 3 + 1, none⟩ u).cell? ⟨wr.heap.size, 1, none⟩ = some (.slice As sg.length cs2) from ⟨World.cell?_setCell_far w7 _ _ _ (by simp; omega) |>.trans h9, World.cell?_setCell_far w7 _ _ _ (by simp; omega) |>.trans hv⟩))
    have R7 := Lib.hid hr7
    have B7 := Lib.hid hb7
    clear hr7 hb7 hc7 hf7 h9 hv hst j9 jv k9 kv d1 d2 d3 hx9
    go_wp2_with fail
    go_roundg j
    case measure => omega
    case rel =>
     have hv1 : V1.heap.size = wr.heap.size + 1 := by rw [HV1.out]; simp
     have hB : Below wr.heap.size wr w7 := HBV.out.trans (B7.out.mono (by omega))
     have hK : Tp.Kp (fun y => y = gm) wr (w7.setCell ⟨gm, m * 3 + 1, none⟩ (.slice A7 sg.length c7)) := (Tp.Kp.of_below hB (fun y => y = gm)).setCell (fun _ => rfl) _
     have hgl := HGM.out
     have hml : m < ts.length := by have := HTL.out; omega
     refine ⟨m + 1, ts.set m (.slice A7 sg.length c7), by have := HMK.out; omega, by go_num, HX.out.kp hK (by omega), HZ.out.kp hK (by omega), ?_, by rw [List.length_set]; exact HTL.out, fun j x s hj hs => ?_, HKP.out.andThen hK (fun y _ h => by rw [h]; rfl)⟩
     · have := World.ownsRow.stored (own_on HROW.out hB) (m * 3 + 1) (.slice A7 sg.length c7) |>.1
       rwa [mapCells_set m _ hml hm] at this
     · by_cases hjm : j = m
       · subst hjm
         rw [HXM.out] at hj
         cases hj
         rw [List.getElem?_set_self hml] at hs
         cases hs
         have h7 : SlV w7 (fun y => y < V1.heap.size) (.slice A7 sg.length c7) sg.length (Pa.zCellsOf sg) := slv_row R7.out
         have hs6 := HKP.out.size
         have hset : ∀ (G : Nat → Prop), (∀ y, G y → y < V1.heap.size) → SlV (w7.setCell ⟨gm, j * 3 + 1, none⟩ (.slice A7 sg.length c7)) G (.slice A7 sg.length c7) sg.length (Pa.zCellsOf sg) := fun G hG =>
           h7.kp ((Tp.Kp.refl (fun y => y = gm) w7).setCell (fun _ => rfl) _) (fun y _ h => by omega) (fun y _ h => hG y h)
         have hvm : ∀ y, ((.slice (some ⟨gm, 0, none⟩) o.maps.length c6 : Value).ownBlock = some y) → y = gm := fun y h => by
           simp [Value.ownBlock] at h
           exact h.symm
         refine ⟨fun _ => hset _ fun y h => ?_, hset _ fun y h => by have := hvm y h; omega⟩
         rcases h with (h | h) | h
         · omega
         · have := (G2.out y h).2
           omega
         · have := hvm y h
           omega
       · rw [List.getElem?_set_ne (fun e => hjm e.symm)] at hs
         obtain ⟨h1, h2⟩ := HSEG.out j x s hj hs
         have hS : ∀ y, y = gm → (.slice (some ⟨gm, 0, none⟩) o.maps.length c6 : Value).ownBlock = some y := fun y h => by rw [h]; rfl
         exact ⟨fun hlt => (h1 (by omega)).kp hK (fun y _ h => .inr (hS y h)) (fun _ _ h => h), h2.kp hK (fun y _ h => hS y h) (fun _ _ h => h)⟩
end Go.Proofs.YtgcbfggoddkhnaaGreatDoor
