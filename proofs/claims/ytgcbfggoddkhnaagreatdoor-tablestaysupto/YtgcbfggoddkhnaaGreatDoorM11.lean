/- Lemmas for the law: Xd, Xr, Ya, Zo. -/
import Derived.Test.YtgcbfggoddkhnaaGreatDoorM10
import Derived.Test.YtgcbfggoddkhnaaGreatDoorM09
import Derived.Test.YtgcbfggoddkhnaaGreatDoorM07
import Derived.Test.YtgcbfggoddkhnaaGreatDoorM08
import Derived.Test.YtgcbfggoddkhnaaGreatDoorM04
namespace Go.Proofs.YtgcbfggoddkhnaaGreatDoor
open Go.RowKit
theorem slv_step {W w1 : World} {F : Nat → Prop} {v : Value} {n : Nat} {cs : List Value} {b : Nat} (h : SlV W F v n cs) (hb : Below W.heap.size W w1) (hF : F b) (k : Nat) (u : Value) : SlV (w1.setCell ⟨b, k, none⟩ u) F v n cs :=
  h.kp ((Tp.Kp.of_below hb (fun x => x = b)).setCell (fun _ => rfl) u) (fun x _ e => by subst e; exact hF) (fun _ _ h => h)
theorem own_step {W w1 : World} {base : Nat} {e : TypeId} {size : Nat} {v : Value} {n : Nat} {xs : List Value} {b : Nat} (h : W.ownsRow base e size v n xs) (hb : Below W.heap.size W w1) (hB : b < base) (k : Nat) (u : Value) : (w1.setCell ⟨b, k, none⟩ u).ownsRow base e size v n xs :=
  own_kp h ((Tp.Kp.of_below hb (fun x => x = b)).setCell (fun _ => rfl) u) fun j hj e => by have := (h.lt j hj).1; omega
theorem below_step {w W w1 : World} {b : Nat} (h : Below w.heap.size w W) (hb : Below W.heap.size W w1) (hB : w.heap.size ≤ b) (k : Nat) (u : Value) : Below w.heap.size w (w1.setCell ⟨b, k, none⟩ u) := (next_below h hb).setCell hB u
theorem size_set (W : World) (a : Addr) (u : Value) : (W.setCell a u).heap.size = W.heap.size := by simp [World.setCell]
theorem kp_put10 (W : World) (b : Nat) (v0 v1 v2 v3 v4 v5 v6 v7 v8 v9 : Value) : Tp.Kp (fun y => y = b) W (put10 W b v0 v1 v2 v3 v4 v5 v6 v7 v8 v9) := by
  have h0 := (Tp.Kp.refl (fun y => y = b) W).setCell (p := ⟨b, 0, none⟩) (fun _ => rfl) v0
  have h1 := h0.setCell (p := ⟨b, 1, none⟩) (fun _ => rfl) v1
  have h2 := h1.setCell (p := ⟨b, 2, none⟩) (fun _ => rfl) v2
  have h3 := h2.setCell (p := ⟨b, 3, none⟩) (fun _ => rfl) v3
  have h4 := h3.setCell (p := ⟨b, 4, none⟩) (fun _ => rfl) v4
  have h5 := h4.setCell (p := ⟨b, 5, none⟩) (fun _ => rfl) v5
  have h6 := h5.setCell (p := ⟨b, 6, none⟩) (fun _ => rfl) v6
  have h7 := h6.setCell (p := ⟨b, 7, none⟩) (fun _ => rfl) v7
  have h8 := h7.setCell (p := ⟨b, 8, none⟩) (fun _ => rfl) v8
  exact h8.setCell (p := ⟨b, 9, none⟩) (fun _ => rfl) v9
def RetObj (w : World) (o : Ob) (e : Ending) (w' : World) : Prop :=
  Below w.heap.size w w' ∧ ∃ v vk, e = .returned v ∧ w'.ownsRow w.heap.size 85 3 vk o.kids.length (kidCells o.kids) ∧ ObjK w' (fun x => x < w.heap.size ∨ vk.ownBlock = some x) v vk o
def Cf (w : World) (vk : Value) (x : Nat) : Prop := x < w.heap.size + 2 ∨ vk.ownBlock = some x
def CpRel (w w6 : World) (o : Ob) (vm vk : Value) (cs zs : Array Value) (B : Nat) (k : Nat) (i : Value) (wr : World) : Prop :=
  ∃ (m : Nat) (ss : List Value), m + k = o.maps.length ∧ i = .int .i64 (m : Int) ∧ BoxAt wr w.heap.size cs 29 ∧ BoxAt wr (w.heap.size + 1) zs 29 ∧ wr.ownsRow B 45 3 vm o.maps.length (mapCells o.maps ss) ∧ ss.length = o.maps.length ∧
    (∀ (j : Nat) (x : Mp) (s : Value), o.maps[j]? = some x → ss[j]? = some s → (j < m → SlV wr (fun x => Cf w vk x ∨ vm.ownBlock = some x) s x.2.1.length (Pa.zCellsOf x.2.1)) ∧ SlV wr (fun x => vm.ownBlock = some x) s x.2.1.length (Pa.zCellsOf x.2.1)) ∧
    Tp.Kp (fun x => vm.ownBlock = some x) w6 wr
set_option maxRecDepth 100000 in
set_option maxHeartbeats 8000000 in
theorem copy_any {w : World} {F : Nat → Prop} {v : Value} {o : Ob} (h : ObjAt w F v o) (hw : WideO o) : Calls Tryz.prog 10 #[v] w (RetObj w o) := by
  obtain ⟨vk, ⟨vl, vb, vo, ve, vm, rfl, hlab, hbytes, hown, hentry, hmaps⟩, hkids⟩ := h
  obtain ⟨ss, hsegs, hmaps⟩ := hmaps.cells
  have hm1 := mapCells_one hsegs
  have hml := mapCells_length hsegs.1
  have wl := hw.lab.1
  have wk := hw.kids.1
  have wb := hw.bytes.1
  have wo := hw.own.1
  have we := hw.entry.1
  have wm := hw.maps.1
  obtain ⟨Al, cl, rfl, hlab'⟩ : ∃ A c, vl = .slice A o.lab.length c ∧ True := by obtain ⟨A, c, h, _⟩ := hlab; exact ⟨A, c, h, trivial⟩
  obtain ⟨Ak, ck, rfl, -⟩ : ∃ A c, vk = .slice A o.kids.length c ∧ True := by obtain ⟨A, c, h, _⟩ := hkids; exact ⟨A, c, h, trivial⟩
  obtain ⟨Ab, cb, rfl, -⟩ : ∃ A c, vb = .slice A o.bytes.length c ∧ True := by obtain ⟨A, c, h, _⟩ := hbytes; exact ⟨A, c, h, trivial⟩
  obtain ⟨Ao, co, rfl, -⟩ : ∃ A c, vo = .slice A o.own.length c ∧ True := by obtain ⟨A, c, h, _⟩ := hown; exact ⟨A, c, h, trivial⟩
  obtain ⟨Ae, ce, rfl, -⟩ : ∃ A c, ve = .slice A o.entry.length c ∧ True := by obtain ⟨A, c, h, _⟩ := hentry; exact ⟨A, c, h, trivial⟩
  obtain ⟨Am, cm, rfl, -⟩ : ∃ A c, vm = .slice A o.maps.length c ∧ True := by obtain ⟨A, c, h, _⟩ := hmaps; exact ⟨A, c, h, trivial⟩
  clear hlab'
  have R1 : Hid (∀ W, Below w.heap.size w W → Calls Tryz.prog 39 #[.slice Al o.lab.length cl] W (RetCells W 42 2 o.lab.length (entCells o.lab))) := fun W hW => clone39_any (F := No) (hlab.on hW fun _ _ h => h.elim) (entCells_length _) (entCells_one _) (by omega)
  have R2 : Hid (∀ W, Below w.heap.size w W → Calls Tryz.prog 40 #[.slice Ak o.kids.length ck] W (RetCells W 85 3 o.kids.length (kidCells o.kids))) := fun W hW => clone40_any (F := No) (hkids.on hW fun _ _ h => h.elim) (kidCells_length _) (kidCells_one _) (by omega)
  have R3 : Hid (∀ W, Below w.heap.size w W → Calls Tryz.prog 41 #[.slice Ab o.bytes.length cb] W (RetCells W 5 1 o.bytes.length (Tp.cellsOf o.bytes))) := fun W hW => clone41_any (F := No) (hbytes.on hW fun _ _ h => h.elim) (by rw [Tp.cellsOf_length]; omega) (Tp.cellsOf_one _) (by omega)
  have R4 : Hid (∀ W, Below w.heap.size w W → Calls Tryz.prog 42 #[.slice Ao o.own.length co] W (RetCells W 9 1 o.own.length (strCellsOf o.own))) := fun W hW => clone42_any (F := No) (hown.on hW fun _ _ h => h.elim) (by simp [strCellsOf]) (strCells_one _) (by omega)
  have R5 : Hid (∀ W, Below w.heap.size w W → Calls Tryz.prog 39 #[.slice Ae o.entry.length ce] W (RetCells W 42 2 o.entry.length (entCells o.entry))) := fun W hW => clone39_any (F := No) (hentry.on hW fun _ _ h => h.elim) (entCells_length _) (entCells_one _) (by omega)
  have R6 : Hid (∀ W, Below w.heap.size w W → Calls Tryz.prog 43 #[.slice Am o.maps.length cm] W (RetCells W 45 3 o.maps.length (mapCells o.maps ss))) := fun W hW => clone43_any (F := No) (hmaps.on hW fun _ _ h => h.elim) hml hm1 (by omega)
  have SG := Lib.hid hsegs
  have WM := Lib.hid hw.maps
  obtain ⟨W0, hW0⟩ : ∃ W0, W0 = (w.alloc (.cells #[.int .i64 o.kind, .slice Al o.lab.length cl, .slice Ak o.kids.length ck, .int .i64 o.next, .slice Ab o.bytes.length cb, .slice Ao o.own.length co, .int .i64 o.cats, .slice Ae o.entry.length ce, .int .i64 o.ring, .slice Am o.maps.length cm] 29)).alloc (.cells #[.int .i64 0, .slice none 0 0, .slice none 0 0, .int .i64 0, .slice none 0 0, .slice none 0 0, .int .i64 0, .slice none 0 0, .int .i64 0, .slice none 0 0] 29) := ⟨_, rfl⟩
  have b0 : Below w.heap.size w W0 := by rw [hW0]; exact ((Below.refl _ _).alloc (Nat.le_refl _) _).alloc (by simp) _
  have x0 : BoxAt W0 w.heap.size #[.int .i64 o.kind, .slice Al o.lab.length cl, .slice Ak o.kids.length ck, .int .i64 o.next, .slice Ab o.bytes.length cb, .slice Ao o.own.length co, .int .i64 o.cats, .slice Ae o.entry.length ce, .int .i64 o.ring, .slice Am o.maps.length cm] 29 := by rw [hW0]; exact (BoxAt.new _ _ _).alloc _
  have z0 : BoxAt W0 (w.heap.size + 1) #[.int .i64 0, .slice none 0 0, .slice none 0 0, .int .i64 0, .slice none 0 0, .slice none 0 0, .int .i64 0, .slice none 0 0, .int .i64 0, .slice none 0 0] 29 := by rw [hW0]; have := BoxAt.new (w.alloc (.cells #[.int .i64 o.kind, .slice Al o.lab.length cl, .slice Ak o.kids.length ck, .int .i64 o.next, .slice Ab o.bytes.length cb, .slice Ao o.own.length co, .int .i64 o.cats, .slice Ae o.entry.length ce, .int .i64 o.ring, .slice Am o.maps.length cm] 29)) #[.int .i64 0, .slice none 0 0, .slice none 0 0, .int .i64 0, .slice none 0 0, .slice none 0 0, .int .i64 0, .slice none 0 0, .int .i64 0, .slice none 0 0] 29; simpa using this
  have s0 : w.heap.size + 1 < W0.heap.size := z0.lt
  have H := R1.out W0 b0
  rw [hW0] at H
  have H1 := Lib.hid H
  have HW0 := Lib.hid hW0
  have B0 := Lib.hid b0
  have X0 := Lib.hid x0
  have Z0 := Lib.hid z0
  have S0 := Lib.hid s0
  clear hlab hbytes hown hentry hmaps hkids hm1 hml hw hsegs hW0 b0 x0 z0 s0 H
  go_enter Tryz.func10, Tryz.ntmps10
  go_wp2_with fail
  refine H1.out.mono ?_
  rintro en w1 ⟨hb, v1, rfl, hr⟩
  rw [← HW0.out] at hb hr
  obtain ⟨A1, c1, rfl⟩ : ∃ A c, v1 = .slice A o.lab.length c := by obtain ⟨A, c, h, _⟩ := slv_row hr; exact ⟨A, c, h⟩
  have hx := X0.out.on hb
  have hz := Z0.out.on hb
  obtain ⟨W1, hW⟩ : ∃ W, W = w1.setCell ⟨w.heap.size, 1, none⟩ (.slice A1 o.lab.length c1) := ⟨_, rfl⟩
  have B1 : Hid (Below w.heap.size w W1) := by rw [hW]; exact below_step B0.out hb (Nat.le_refl _) _ _
  have X1 : Hid (BoxAt W1 w.heap.size #[.int .i64 o.kind, .slice A1 o.lab.length c1, .slice Ak o.kids.length ck, .int .i64 o.next, .slice Ab o.bytes.length cb, .slice Ao o.own.length co, .int .i64 o.cats, .slice Ae o.entry.length ce, .int .i64 o.ring, .slice Am o.maps.length cm] 29) := by rw [hW]; exact hx.setL 1 _
  have Z1 : Hid (BoxAt W1 (w.heap.size + 1) #[.int .i64 0, .slice none 0 0, .slice none 0 0, .int .i64 0, .slice none 0 0, .slice none 0 0, .int .i64 0, .slice none 0 0, .int .i64 0, .slice none 0 0] 29) := by rw [hW]; exact hz.far (by simp) _
  have hlt : w.heap.size + 1 < W0.heap.size := Z0.out.lt
  have S1 : Hid (W0.heap.size ≤ W1.heap.size) := by rw [hW, size_set]; exact hb.size
  have hrW : W1.ownsRow W0.heap.size 42 2 (.slice A1 o.lab.length c1) o.lab.length (entCells o.lab) := by rw [hW]; exact own_step hr (Below.refl _ _) (by omega) _ _
  have O1 := Lib.hid hrW
  have H := R2.out W1 B1.out
  obtain ⟨q0, q1, q2, q3, q4, q5, q6, q7, q8, q9⟩ := box10 hx
  have fr := hx.frozen
  have HH := Lib.hid H
  have HW := Lib.hid hW
  clear H hb hr hx hz hW hlt hrW
  go_wp2_with fail
  rw [← HW.out]
  refine HH.out.mono ?_
  clear q0 q1 q2 q3 q4 q5 q6 q7 q8 q9 fr HH HW
  rintro en w2 ⟨hb, v2, rfl, hr⟩
  obtain ⟨A2, c2, rfl⟩ : ∃ A c, v2 = .slice A o.kids.length c := by obtain ⟨A, c, h, _⟩ := slv_row hr; exact ⟨A, c, h⟩
  have hx := X1.out.on hb
  have hz := Z1.out.on hb
  obtain ⟨W2, hW⟩ : ∃ W, W = w2.setCell ⟨w.heap.size, 2, none⟩ (.slice A2 o.kids.length c2) := ⟨_, rfl⟩
  have B2 : Hid (Below w.heap.size w W2) := by rw [hW]; exact below_step B1.out hb (Nat.le_refl _) _ _
  have X2 : Hid (BoxAt W2 w.heap.size #[.int .i64 o.kind, .slice A1 o.lab.length c1, .slice A2 o.kids.length c2, .int .i64 o.next, .slice Ab o.bytes.length cb, .slice Ao o.own.length co, .int .i64 o.cats, .slice Ae o.entry.length ce, .int .i64 o.ring, .slice Am o.maps.length cm] 29) := by rw [hW]; exact hx.setL 2 _
  have Z2 : Hid (BoxAt W2 (w.heap.size + 1) #[.int .i64 0, .slice none 0 0, .slice none 0 0, .int .i64 0, .slice none 0 0, .slice none 0 0, .int .i64 0, .slice none 0 0, .int .i64 0, .slice none 0 0] 29) := by rw [hW]; exact hz.far (by simp) _
  have hlt : w.heap.size + 1 < W1.heap.size := Z1.out.lt
  have S2 : Hid (W1.heap.size ≤ W2.heap.size) := by rw [hW, size_set]; exact hb.size
  have hrW : W2.ownsRow W1.heap.size 85 3 (.slice A2 o.kids.length c2) o.kids.length (kidCells o.kids) := by rw [hW]; exact own_step hr (Below.refl _ _) (by omega) _ _
  have O2 := Lib.hid hrW
  have G2 : Hid (∀ j, (.slice A2 o.kids.length c2 : Value).ownBlock = some j → W1.heap.size ≤ j ∧ j < W2.heap.size) := fun j hj => hrW.lt j hj
  have L1 : Hid (SlV W2 (Cf w (.slice A2 o.kids.length c2)) (.slice A1 o.lab.length c1) o.lab.length (entCells o.lab)) := by
    rw [hW]
    refine (slv_row O1.out).kp ((Tp.Kp.of_below hb (fun x => x = w.heap.size)).setCell (fun _ => rfl) _) (fun x _ e => by subst e; have := S0.out; omega) (fun x hx h => ?_)
    rcases h with h | h
    · have := S0.out; omega
    · have := (G2.out x h).1; omega
  have H := R3.out W2 B2.out
  obtain ⟨q0, q1, q2, q3, q4, q5, q6, q7, q8, q9⟩ := box10 hx
  have fr := hx.frozen
  have HH := Lib.hid H
  have HW := Lib.hid hW
  clear H hb hr hx hz hW hlt hrW
  go_wp2_with fail
  rw [← HW.out]
  refine HH.out.mono ?_
  clear q0 q1 q2 q3 q4 q5 q6 q7 q8 q9 fr HH HW
  rintro en w3 ⟨hb, v3, rfl, hr⟩
  obtain ⟨A3, c3, rfl⟩ : ∃ A c, v3 = .slice A o.bytes.length c := by obtain ⟨A, c, h, _⟩ := slv_row hr; exact ⟨A, c, h⟩
  have hx := X2.out.on hb
  have hz := Z2.out.on hb
  obtain ⟨W3, hW⟩ : ∃ W, W = w3.setCell ⟨w.heap.size, 4, none⟩ (.slice A3 o.bytes.length c3) := ⟨_, rfl⟩
  have B3 : Hid (Below w.heap.size w W3) := by rw [hW]; exact below_step B2.out hb (Nat.le_refl _) _ _
  have X3 : Hid (BoxAt W3 w.heap.size #[.int .i64 o.kind, .slice A1 o.lab.length c1, .slice A2 o.kids.length c2, .int .i64 o.next, .slice A3 o.bytes.length c3, .slice Ao o.own.length co, .int .i64 o.cats, .slice Ae o.entry.length ce, .int .i64 o.ring, .slice Am o.maps.length cm] 29) := by rw [hW]; exact hx.setL 4 _
  have Z3 : Hid (BoxAt W3 (w.heap.size + 1) #[.int .i64 0, .slice none 0 0, .slice none 0 0, .int .i64 0, .slice none 0 0, .slice none 0 0, .int .i64 0, .slice none 0 0, .int .i64 0, .slice none 0 0] 29) := by rw [hW]; exact hz.far (by simp) _
  have hlt : w.heap.size + 1 < W2.heap.size := Z2.out.lt
  have S3 : Hid (W2.heap.size ≤ W3.heap.size) := by rw [hW, size_set]; exact hb.size
  have hrW : W3.ownsRow W2.heap.size 5 1 (.slice A3 o.bytes.length c3) o.bytes.length (Tp.cellsOf o.bytes) := by rw [hW]; exact own_step hr (Below.refl _ _) (by omega) _ _
  have L1' : Hid (SlV W3 (Cf w (.slice A2 o.kids.length c2)) (.slice A1 o.lab.length c1) o.lab.length (entCells o.lab)) := by rw [hW]; exact slv_step L1.out hb (.inl (by omega)) _ _
  clear L1
  have L1 := L1'
  clear L1'
  have O2' : Hid (W3.ownsRow W1.heap.size 85 3 (.slice A2 o.kids.length c2) o.kids.length (kidCells o.kids)) := by rw [hW]; exact own_step O2.out hb (by have := X1.out.lt; omega) _ _
  clear O2
  have O2 := O2'
  clear O2'
  have L3 : Hid (SlV W3 (Cf w (.slice A2 o.kids.length c2)) (.slice A3 o.bytes.length c3) o.bytes.length (Tp.cellsOf o.bytes)) := (slv_row hrW).on (Below.refl _ _) fun x _ h => by
    rcases h with h | h
    · omega
    · have := (G2.out x h).2;  omega
  have H := R4.out W3 B3.out
  obtain ⟨q0, q1, q2, q3, q4, q5, q6, q7, q8, q9⟩ := box10 hx
  have fr := hx.frozen
  have HH := Lib.hid H
  have HW := Lib.hid hW
  clear H hb hr hx hz hW hlt hrW
  go_wp2_with fail
  rw [← HW.out]
  refine HH.out.mono ?_
  clear q0 q1 q2 q3 q4 q5 q6 q7 q8 q9 fr HH HW
  rintro en w4 ⟨hb, v4, rfl, hr⟩
  obtain ⟨A4, c4, rfl⟩ : ∃ A c, v4 = .slice A o.own.length c := by obtain ⟨A, c, h, _⟩ := slv_row hr; exact ⟨A, c, h⟩
  have hx := X3.out.on hb
  have hz := Z3.out.on hb
  obtain ⟨W4, hW⟩ : ∃ W, W = w4.setCell ⟨w.heap.size, 5, none⟩ (.slice A4 o.own.length c4) := ⟨_, rfl⟩
  have B4 : Hid (Below w.heap.size w W4) := by rw [hW]; exact below_step B3.out hb (Nat.le_refl _) _ _
  have X4 : Hid (BoxAt W4 w.heap.size #[.int .i64 o.kind, .slice A1 o.lab.length c1, .slice A2 o.kids.length c2, .int .i64 o.next, .slice A3 o.bytes.length c3, .slice A4 o.own.length c4, .int .i64 o.cats, .slice Ae o.entry.length ce, .int .i64 o.ring, .slice Am o.maps.length cm] 29) := by rw [hW]; exact hx.setL 5 _
  have Z4 : Hid (BoxAt W4 (w.heap.size + 1) #[.int .i64 0, .slice none 0 0, .slice none 0 0, .int .i64 0, .slice none 0 0, .slice none 0 0, .int .i64 0, .slice none 0 0, .int .i64 0, .slice none 0 0] 29) := by rw [hW]; exact hz.far (by simp) _
  have hlt : w.heap.size + 1 < W3.heap.size := Z3.out.lt
  have S4 : Hid (W3.heap.size ≤ W4.heap.size) := by rw [hW, size_set]; exact hb.size
  have hrW : W4.ownsRow W3.heap.size 9 1 (.slice A4 o.own.length c4) o.own.length (strCellsOf o.own) := by rw [hW]; exact own_step hr (Below.refl _ _) (by omega) _ _
  have L1' : Hid (SlV W4 (Cf w (.slice A2 o.kids.length c2)) (.slice A1 o.lab.length c1) o.lab.length (entCells o.lab)) := by rw [hW]; exact slv_step L1.out hb (.inl (by omega)) _ _
  clear L1
  have L1 := L1'
  clear L1'
  have O2' : Hid (W4.ownsRow W1.heap.size 85 3 (.slice A2 o.kids.length c2) o.kids.length (kidCells o.kids)) := by rw [hW]; exact own_step O2.out hb (by have := X1.out.lt; omega) _ _
  clear O2
  have O2 := O2'
  clear O2'
  have L3' : Hid (SlV W4 (Cf w (.slice A2 o.kids.length c2)) (.slice A3 o.bytes.length c3) o.bytes.length (Tp.cellsOf o.bytes)) := by rw [hW]; exact slv_step L3.out hb (.inl (by omega)) _ _
  clear L3
  have L3 := L3'
  clear L3'
  have L4 : Hid (SlV W4 (Cf w (.slice A2 o.kids.length c2)) (.slice A4 o.own.length c4) o.own.length (strCellsOf o.own)) := (slv_row hrW).on (Below.refl _ _) fun x _ h => by
    rcases h with h | h
    · omega
    · have := (G2.out x h).2; have := S3.out; omega
  have H := R5.out W4 B4.out
  obtain ⟨q0, q1, q2, q3, q4, q5, q6, q7, q8, q9⟩ := box10 hx
  have fr := hx.frozen
  have HH := Lib.hid H
  have HW := Lib.hid hW
  clear H hb hr hx hz hW hlt hrW
  go_wp2_with fail
  rw [← HW.out]
  refine HH.out.mono ?_
  clear q0 q1 q2 q3 q4 q5 q6 q7 q8 q9 fr HH HW
  rintro en w5 ⟨hb, v5, rfl, hr⟩
  obtain ⟨A5, c5, rfl⟩ : ∃ A c, v5 = .slice A o.entry.length c := by obtain ⟨A, c, h, _⟩ := slv_row hr; exact ⟨A, c, h⟩
  have hx := X4.out.on hb
  have hz := Z4.out.on hb
  obtain ⟨W5, hW⟩ : ∃ W, W = w5.setCell ⟨w.heap.size, 7, none⟩ (.slice A5 o.entry.length c5) := ⟨_, rfl⟩
  have B5 : Hid (Below w.heap.size w W5) := by rw [hW]; exact below_step B4.out hb (Nat.le_refl _) _ _
  have X5 : Hid (BoxAt W5 w.heap.size #[.int .i64 o.kind, .slice A1 o.lab.length c1, .slice A2 o.kids.length c2, .int .i64 o.next, .slice A3 o.bytes.length c3, .slice A4 o.own.length c4, .int .i64 o.cats, .slice A5 o.entry.length c5, .int .i64 o.ring, .slice Am o.maps.length cm] 29) := by rw [hW]; exact hx.setL 7 _
  have Z5 : Hid (BoxAt W5 (w.heap.size + 1) #[.int .i64 0, .slice none 0 0, .slice none 0 0, .int .i64 0, .slice none 0 0, .slice none 0 0, .int .i64 0, .slice none 0 0, .int .i64 0, .slice none 0 0] 29) := by rw [hW]; exact hz.far (by simp) _
  have hlt : w.heap.size + 1 < W4.heap.size := Z4.out.lt
  have S5 : Hid (W4.heap.size ≤ W5.heap.size) := by rw [hW, size_set]; exact hb.size
  have hrW : W5.ownsRow W4.heap.size 42 2 (.slice A5 o.entry.length c5) o.entry.length (entCells o.entry) := by rw [hW]; exact own_step hr (Below.refl _ _) (by omega) _ _
  have L1' : Hid (SlV W5 (Cf w (.slice A2 o.kids.length c2)) (.slice A1 o.lab.length c1) o.lab.length (entCells o.lab)) := by rw [hW]; exact slv_step L1.out hb (.inl (by omega)) _ _
  clear L1
  have L1 := L1'
  clear L1'
  have O2' : Hid (W5.ownsRow W1.heap.size 85 3 (.slice A2 o.kids.length c2) o.kids.length (kidCells o.kids)) := by rw [hW]; exact own_step O2.out hb (by have := X1.out.lt; omega) _ _
  clear O2
  have O2 := O2'
  clear O2'
  have L3' : Hid (SlV W5 (Cf w (.slice A2 o.kids.length c2)) (.slice A3 o.bytes.length c3) o.bytes.length (Tp.cellsOf o.bytes)) := by rw [hW]; exact slv_step L3.out hb (.inl (by omega)) _ _
  clear L3
  have L3 := L3'
  clear L3'
  have L4' : Hid (SlV W5 (Cf w (.slice A2 o.kids.length c2)) (.slice A4 o.own.length c4) o.own.length (strCellsOf o.own)) := by rw [hW]; exact slv_step L4.out hb (.inl (by omega)) _ _
  clear L4
  have L4 := L4'
  clear L4'
  have L5 : Hid (SlV W5 (Cf w (.slice A2 o.kids.length c2)) (.slice A5 o.entry.length c5) o.entry.length (entCells o.entry)) := (slv_row hrW).on (Below.refl _ _) fun x _ h => by
    rcases h with h | h
    · omega
    · have := (G2.out x h).2; have := S3.out; have := S4.out; omega
  have H := R6.out W5 B5.out
  obtain ⟨q0, q1, q2, q3, q4, q5, q6, q7, q8, q9⟩ := box10 hx
  have fr := hx.frozen
  have HH := Lib.hid H
  have HW := Lib.hid hW
  clear H hb hr hx hz hW hlt hrW
  go_wp2_with fail
  rw [← HW.out]
  refine HH.out.mono ?_
  clear q0 q1 q2 q3 q4 q5 q6 q7 q8 q9 fr HH HW
  rintro en w6 ⟨hb, v6, rfl, hr⟩
  obtain ⟨A6, c6, rfl⟩ : ∃ A c, v6 = .slice A o.maps.length c := by obtain ⟨A, c, h, _⟩ := slv_row hr; exact ⟨A, c, h⟩
  have hx := X5.out.on hb
  have hz := Z5.out.on hb
  obtain ⟨W6, hW⟩ : ∃ W, W = w6.setCell ⟨w.heap.size, 9, none⟩ (.slice A6 o.maps.length c6) := ⟨_, rfl⟩
  have B6 : Hid (Below w.heap.size w W6) := by rw [hW]; exact below_step B5.out hb (Nat.le_refl _) _ _
  have X6 : Hid (BoxAt W6 w.heap.size #[.int .i64 o.kind, .slice A1 o.lab.length c1, .slice A2 o.kids.length c2, .int .i64 o.next, .slice A3 o.bytes.length c3, .slice A4 o.own.length c4, .int .i64 o.cats, .slice A5 o.entry.length c5, .int .i64 o.ring, .slice A6 o.maps.length c6] 29) := by rw [hW]; exact hx.setL 9 _
  have Z6 : Hid (BoxAt W6 (w.heap.size + 1) #[.int .i64 0, .slice none 0 0, .slice none 0 0, .int .i64 0, .slice none 0 0, .slice none 0 0, .int .i64 0, .slice none 0 0, .int .i64 0, .slice none 0 0] 29) := by rw [hW]; exact hz.far (by simp) _
  have hlt : w.heap.size + 1 < W5.heap.size := Z5.out.lt
  have S6 : Hid (W5.heap.size ≤ W6.heap.size) := by rw [hW, size_set]; exact hb.size
  have hrW : W6.ownsRow W5.heap.size 45 3 (.slice A6 o.maps.length c6) o.maps.length (mapCells o.maps ss) := by rw [hW]; exact own_step hr (Below.refl _ _) (by omega) _ _
  have O6 := Lib.hid hrW
  have K56 : Hid (Tp.Kp (fun x => x = w.heap.size) W5 W6) := by rw [hW]; exact (Tp.Kp.of_below hb (fun x => x = w.heap.size)).setCell (fun _ => rfl) _
  have G6 : Hid (∀ j, (.slice A6 o.maps.length c6 : Value).ownBlock = some j → W5.heap.size ≤ j) := fun j hj => (hrW.lt j hj).1
  have G7 : Hid (W2.heap.size ≤ W5.heap.size ∧ W5.heap.size ≤ W6.heap.size ∧ w.heap.size + 1 < W5.heap.size) := by have := S3.out; have := S4.out; have := S5.out; have := S6.out; exact ⟨by omega, by omega, by omega⟩
  have SG6 : Hid (∀ (j : Nat) (x : Mp) (s : Value), o.maps[j]? = some x → ss[j]? = some s → SlV W6 (fun x => (.slice A6 o.maps.length c6 : Value).ownBlock = some x) s x.2.1.length (Pa.zCellsOf x.2.1)) := fun j x s hx hs => (SG.out.2 j x s hx hs).on B6.out fun y hy h => by have := G6.out y h; have := G7.out; omega
  obtain ⟨q0, q1, q2, q3, q4, q5, q6, q7, q8, q9⟩ := box10 hx
  have fr := hx.frozen
  have HW := Lib.hid hW
  obtain ⟨zs, hzs⟩ : ∃ zs : Array Value, zs = #[.int .i64 0, .slice none 0 0, .slice none 0 0, .int .i64 0, .slice none 0 0, .slice none 0 0, .int .i64 0, .slice none 0 0, .int .i64 0, .slice none 0 0] := ⟨_, rfl⟩
  obtain ⟨cs, hcs⟩ : ∃ cs : Array Value, cs = #[.int .i64 o.kind, .slice A1 o.lab.length c1, .slice A2 o.kids.length c2, .int .i64 o.next, .slice A3 o.bytes.length c3, .slice A4 o.own.length c4, .int .i64 o.cats, .slice A5 o.entry.length c5, .int .i64 o.ring, .slice A6 o.maps.length c6] := ⟨_, rfl⟩
  have ZS := Lib.hid hzs
  have CS := Lib.hid hcs
  have X6c : Hid (BoxAt W6 w.heap.size cs 29) := by rw [hcs]; exact X6.out
  have Z6c : Hid (BoxAt W6 (w.heap.size + 1) zs 29) := by rw [hzs]; exact Z6.out
  clear hb hr hx hz hW hlt hrW hzs hcs
  go_wp2_with fail
  rw [← HW.out]
  clear q0 q1 q2 q3 q4 q5 q6 q7 q8 q9 fr HW
  go_loopg [32] o.maps.length (fun k i wr => CpRel w W6 o (.slice A6 o.maps.length c6) (.slice A2 o.kids.length c2) cs zs W5.heap.size k i wr)
  case atStart => exact ⟨0, ss, by simp, rfl, X6c.out, Z6c.out, O6.out, SG.out.1, fun j x s hx hs => ⟨fun h => absurd h (by omega), SG6.out j x s hx hs⟩, Tp.Kp.refl _ _⟩
  case round =>
    obtain ⟨m, ts, hmk, hi, hx, hz, hrow, htl, hseg, hkp⟩ := hrel
    subst hi
    cases gk with
    | zero =>
      have hge : o.maps.length ≤ m := by omega
      rw [CS.out] at hx
      have hx10 := box10 hx
      obtain ⟨q0, q1, q2, q3, q4, q5, q6, q7, q8, q9⟩ := hx10
      rw [ZS.out] at hz
      obtain ⟨r0, r1, r2, r3, r4, r5, r6, r7, r8, r9⟩ := box10 hz
      have fr := hz.frozen
      have HZ := Lib.hid hz
      have g7 := G7.out
      have hbw : Below w.heap.size w wr := B6.out.trans (hkp.below (by have := B6.out.size; omega) fun y hy => by have := G6.out y hy; omega)
      have HBW := Lib.hid hbw
      have FIN : Hid (∀ WF, Tp.Kp (fun y => y = w.heap.size + 1) wr WF → WF.ownsRow w.heap.size 85 3 (.slice A2 o.kids.length c2) o.kids.length (kidCells o.kids) ∧ ObjK WF (fun x => x < w.heap.size ∨ (.slice A2 o.kids.length c2 : Value).ownBlock = some x) (.agg #[.int .i64 o.kind, .slice A1 o.lab.length c1, .slice A2 o.kids.length c2, .int .i64 o.next, .slice A3 o.bytes.length c3, .slice A4 o.own.length c4, .int .i64 o.cats, .slice A5 o.entry.length c5, .int .i64 o.ring, .slice A6 o.maps.length c6]) (.slice A2 o.kids.length c2) o) := fun WF hK => by
        have K5 : Tp.Kp (fun y => y = w.heap.size ∨ (.slice A6 o.maps.length c6 : Value).ownBlock = some y ∨ y = w.heap.size + 1) W5 WF := ((K56.out.more (fun _ _ h => .inl h)).andThen hkp (fun _ _ h => .inr (.inl h))).andThen hK (fun _ _ h => .inr (.inr h))
        have hno : ∀ y, (.slice A2 o.kids.length c2 : Value).ownBlock = some y → ¬ (y = w.heap.size ∨ (.slice A6 o.maps.length c6 : Value).ownBlock = some y ∨ y = w.heap.size + 1) := fun y hy h => by
          have h1 := G2.out y hy
          have h2 := S1.out
          have h3 := S0.out
          rcases h with h | h | h
          · omega
          · have := G6.out y h
            omega
          · omega
        have hS : ∀ y, y < W5.heap.size → (y = w.heap.size ∨ (.slice A6 o.maps.length c6 : Value).ownBlock = some y ∨ y = w.heap.size + 1) → Cf w (.slice A2 o.kids.length c2) y := fun y hy h => by
          rcases h with h | h | h
          · exact .inl (by omega)
          · have := G6.out y h
            omega
          · exact .inl (by omega)
        have hF : ∀ y, y < W5.heap.size → (y < w.heap.size ∨ (.slice A2 o.kids.length c2 : Value).ownBlock = some y) → Cf w (.slice A2 o.kids.length c2) y := fun y _ h => h.imp (fun h => by omega) id
        refine ⟨own_base (own_kp O2.out K5 hno) (by have := S1.out; have := S0.out; omega), _, _, _, _, _, rfl, L1.out.kp K5 hS hF, L3.out.kp K5 hS hF, L4.out.kp K5 hS hF, L5.out.kp K5 hS hF, mapsV_of (ss := ts) ⟨htl, fun j x s hj hs => ?_⟩ ?_⟩
        · refine ((hseg j x s hj hs).1 ?_).kp hK (fun y _ h => .inl (.inl (by omega))) (fun y _ h => .inl (h.imp (fun h => by omega) id))
          have := (List.getElem?_eq_some_iff.1 hj).1
          omega
        · refine (slv_row hrow).kp hK (fun y _ h => by omega) (fun y _ h => ?_)
          rcases h with h | h
          · omega
          · have := (G2.out y h).2
            omega
      clear hx hz hrow hseg hkp hbw
      go_wp2_with fail
      refine bodyPost_ret (results_cell_row rfl _ _ (w.heap.size + 1) 29 #[.int .i64 o.kind, .slice A1 o.lab.length c1, .slice A2 o.kids.length c2, .int .i64 o.next, .slice A3 o.bytes.length c3, .slice A4 o.own.length c4, .int .i64 o.cats, .slice A5 o.entry.length c5, .int .i64 o.ring, .slice A6 o.maps.length c6] (0, 0) _ rfl (HZ.out.set10 _ _ _ _ _ _ _ _ _ _) Tryz.underlying29 rfl (by kernel_rfl)) rfl ?_
      exact ⟨below_put10 HBW.out (by omega) _ _ _ _ _ _ _ _ _ _, _, _, rfl, (FIN.out _ (kp_put10 _ _ _ _ _ _ _ _ _ _ _ _)).1, (FIN.out _ (kp_put10 _ _ _ _ _ _ _ _ _ _ _ _)).2⟩
    | succ j =>
      have hm : m < o.maps.length := by omega
      obtain ⟨x, hxm⟩ : ∃ x, o.maps[m]? = some x := ⟨_, List.getElem?_eq_getElem hm⟩
      obtain ⟨s, hsm⟩ : ∃ s, ts[m]? = some s := ⟨_, List.getElem?_eq_getElem (by omega)⟩
      have hsl := (hseg m x s hxm hsm).2
      have hwx := WM.out.2 x (List.mem_of_getElem? hxm)
      obtain ⟨e1, e2, e3⟩ := mapCells_at hxm hsm
      obtain ⟨at1, sg, wf⟩ := x
      obtain ⟨As, cs2, rfl, hsn, hsc, hss⟩ := hsl
      have hvm : ∃ gm, A6 = some ⟨gm, 0, none⟩ := by
        rcases hrow.2 with ⟨h, h0⟩ | ⟨gm, cap, cur, h, _⟩
        · omega
        · injection h with h _ _
          exact ⟨gm, h⟩
      obtain ⟨gm, rfl⟩ := hvm
      have hgm := hrow.lt gm rfl
      have d1 := (hrow.cellAt (m * 3) (by omega)).trans e1
      have d2 := (hrow.cellAt (m * 3 + 1) (by omega)).trans e2
      have d3 := (hrow.cellAt (m * 3 + 2) (by omega)).trans e3
      have hx9 := hx.cell (k := 9) (v := .slice (some ⟨gm, 0, none⟩) o.maps.length c6) (by rw [CS.out]; rfl)
      obtain ⟨V1, hV1⟩ : ∃ V1, V1 = wr.alloc (.cells #[.int .i64 at1, .slice As sg.length cs2, .bool wf] 45) := ⟨_, rfl⟩
      have hbV : Below wr.heap.size wr V1 := by rw [hV1]; exact (Below.refl _ _).alloc (Nat.le_refl _) _
      have hxV := hx.on hbV
      have k9 : V1.cell? ⟨w.heap.size, 9, none⟩ = some (.slice (some ⟨gm, 0, none⟩) o.maps.length c6) := hxV.cell (by rw [CS.out]; rfl)
      have kv : V1.cell? ⟨wr.heap.size, 1, none⟩ = some (.slice As sg.length cs2) := by rw [hV1]; exact (BoxAt.new _ _ _).cell rfl
      have hsV : V1.heap.size = wr.heap.size + 1 := by rw [hV1]; simp
      have H44 : Hid (Calls Tryz.prog 44 #[.slice As sg.length cs2] V1.drew fun e w' => (RetCells V1 3 1 sg.length (Pa.zCellsOf sg) e w') ∧ w'.cell? ⟨w.heap.size, 9, none⟩ = some (.slice (some ⟨gm, 0, none⟩) o.maps.length c6) ∧ w'.cell? ⟨wr.heap.size, 1, none⟩ = some (.slice As sg.length cs2) ∧
          w'.cell? ⟨gm, m * 3 + 1, none⟩ = some (.slice As sg.length cs2) ∧ w'.frozen? ⟨gm, m * 3 + 1, none⟩ = false) := by
        refine (clone44_any (F := No) (w := V1.drew) (SlV.on (w := wr) (w' := V1.drew) ⟨As, cs2, rfl, hsn, hsc, hss⟩ hbV.drew fun _ _ h => h.elim) (by simp [Pa.zCellsOf]) (Pa.zCells_one _) (by have := hwx.2.1; simp only at this; omega)).mono ?_
        rintro e w' ⟨hb, v, rfl, hr⟩
        have hb : Below V1.heap.size V1 w' := ⟨hb.os, hb.tape, hb.output, hb.size, hb.block⟩
        have hrg := own_on (own_on hrow hbV) hb
        exact ⟨⟨hb, v, rfl, hr⟩, (hb.cell (p := ⟨w.heap.size, 9, none⟩) hxV.lt).trans k9, (hb.cell (p := ⟨wr.heap.size, 1, none⟩) (show wr.heap.size < V1.heap.size by omega)).trans kv, (hrg.cellAt (m * 3 + 1) (by omega)).trans e2, hrg.frozenAt _⟩
      have HMK := Lib.hid hmk
      have HROW := Lib.hid hrow
      have HSEG := Lib.hid hseg
      have HTL := Lib.hid htl
      have HKP := Lib.hid hkp
      have HX := Lib.hid hx
      have HZ := Lib.hid hz
      have HV1 := Lib.hid hV1
      have HBV := Lib.hid hbV
      have HGM := Lib.hid hgm
      have HXM := Lib.hid hxm
      have HSM := Lib.hid hsm
      have hxlt := hx.lt
      have g7 := G7.out
      have hne1 : ¬ gm = w.heap.size := by omega
      have hne2 : ¬ gm = wr.heap.size := by omega
      clear hmk hrow hseg htl hkp hx hz hsm hxm e1 e2 e3 hbV hxV hwx hV1 hsV
      go_wp2_with fail
      rw [← HV1.out]
      have j9 : V1.drew.cell? ⟨w.heap.size, 9, none⟩ = some (.slice (some ⟨gm, 0, none⟩) o.maps.length c6) := k9
      have jv : V1.drew.cell? ⟨wr.heap.size, 1, none⟩ = some (.slice As sg.length cs2) := kv
      go_region_held3 (fun W => W.cell? ⟨w.heap.size, 9, none⟩ = some (.slice (some ⟨gm, 0, none⟩) o.maps.length c6) ∧ W.cell? ⟨wr.heap.size, 1, none⟩ = some (.slice As sg.length cs2))
        (first
          | with_reducible exact ⟨j9, jv⟩
          | with_reducible exact ⟨h9, hv⟩
          | with_reducible exact hst _)
        (first
          | (go_at_call 44; refine H44.out.mono ?_; rintro e w7 ⟨⟨hb7, v7, rfl, hr7⟩, h9, hv, hc7, hf7⟩; obtain ⟨A7, c7, rfl⟩ : ∃ A c, v7 = .slice A sg.length c := (by obtain ⟨A, c, h, _⟩ := slv_row hr7; exact ⟨A, c, h⟩); have hst := fun u => show (w7.setCell ⟨gm, m * 3 + 1, none⟩ u).cell? ⟨w.heap.size, 9, none⟩ = some (.slice (some ⟨gm, 0, none⟩) o.maps.length c6) ∧ (w7.setCell ⟨gm, m * 3 + 1, none⟩ u).cell? ⟨wr.heap.size, 1, none⟩ = some (.slice As sg.length cs2) from ⟨World.cell?_setCell_far w7 _ _ _ (by simp; omega) |>.trans h9, World.cell?_setCell_far w7 _ _ _ (by simp; omega) |>.trans hv⟩))
      have R7 := Lib.hid hr7
      have B7 := Lib.hid hb7
      clear hr7 hb7 hc7 hf7 h9 hv hst j9 jv k9 kv d1 d2 d3 hx9
      go_wp2_with fail
      go_roundg j
      case measure => omega
      case rel =>
        have hv1 : V1.heap.size = wr.heap.size + 1 := by rw [HV1.out]; simp
        have hB : Below wr.heap.size wr w7 := HBV.out.trans (B7.out.mono (by omega))
        have hK : Tp.Kp (fun y => y = gm) wr (w7.setCell ⟨gm, m * 3 + 1, none⟩ (.slice A7 sg.length c7)) := (Tp.Kp.of_below hB (fun y => y = gm)).setCell (fun _ => rfl) _
        have hgl := HGM.out
        have hml : m < ts.length := by have := HTL.out; omega
        refine ⟨m + 1, ts.set m (.slice A7 sg.length c7), by have := HMK.out; omega, by go_num, HX.out.kp hK (by omega), HZ.out.kp hK (by omega), ?_, by rw [List.length_set]; exact HTL.out, fun j x s hj hs => ?_, HKP.out.andThen hK (fun y _ h => by rw [h]; rfl)⟩
        · have := World.ownsRow.stored (own_on HROW.out hB) (m * 3 + 1) (.slice A7 sg.length c7) |>.1
          rwa [mapCells_set m _ hml hm] at this
        · by_cases hjm : j = m
          · subst hjm
            rw [HXM.out] at hj
            cases hj
            rw [List.getElem?_set_self hml] at hs
            cases hs
            have h7 : SlV w7 (fun y => y < V1.heap.size) (.slice A7 sg.length c7) sg.length (Pa.zCellsOf sg) := slv_row R7.out
            have hs6 := HKP.out.size
            have hset : ∀ (G : Nat → Prop), (∀ y, G y → y < V1.heap.size) → SlV (w7.setCell ⟨gm, j * 3 + 1, none⟩ (.slice A7 sg.length c7)) G (.slice A7 sg.length c7) sg.length (Pa.zCellsOf sg) := fun G hG =>
              h7.kp ((Tp.Kp.refl (fun y => y = gm) w7).setCell (fun _ => rfl) _) (fun y _ h => by omega) (fun y _ h => hG y h)
            have hvm : ∀ y, ((.slice (some ⟨gm, 0, none⟩) o.maps.length c6 : Value).ownBlock = some y) → y = gm := fun y h => by
              simp [Value.ownBlock] at h
              exact h.symm
            refine ⟨fun _ => hset _ fun y h => ?_, hset _ fun y h => by have := hvm y h; omega⟩
            rcases h with (h | h) | h
            · omega
            · have := (G2.out y h).2
              omega
            · have := hvm y h
              omega
          · rw [List.getElem?_set_ne (fun e => hjm e.symm)] at hs
            obtain ⟨h1, h2⟩ := HSEG.out j x s hj hs
            have hS : ∀ y, y = gm → (.slice (some ⟨gm, 0, none⟩) o.maps.length c6 : Value).ownBlock = some y := fun y h => by rw [h]; rfl
            exact ⟨fun hlt => (h1 (by omega)).kp hK (fun y _ h => .inr (hS y h)) (fun _ _ h => h), h2.kp hK (fun y _ h => hS y h) (fun _ _ h => h)⟩
end Go.Proofs.YtgcbfggoddkhnaaGreatDoor

namespace Go.Proofs.YtgcbfggoddkhnaaGreatDoor
open Go.RowKit
set_option maxRecDepth 100000 in
set_option maxHeartbeats 4000000 in
theorem get_read {w : World} {t n : Nat} {T : TT} {A : Option Addr} {c : Nat} {p : List Int} (he : Env w) (ht : GivR w t n T) (hp : Pa.PL w A c p) (hn : p.length ≤ 10000000) :
    Calls Tryz.prog 23 #[.pointer (some ⟨t, 0, none⟩), .slice A p.length c] w (RetFind w T (Pa.zText p)) := by
  have B0 : Hid (Below w.heap.size w (w.alloc (.cells #[.int .i64 0, .slice none 0 0, .slice none 0 0, .int .i64 0, .slice none 0 0, .slice none 0 0, .int .i64 0, .slice none 0 0, .int .i64 0, .slice none 0 0] 29))) := (Below.refl _ _).alloc (Nat.le_refl _) _
  have Z0 := Lib.hid (BoxAt.new w #[.int .i64 0, .slice none 0 0, .slice none 0 0, .int .i64 0, .slice none 0 0, .slice none 0 0, .int .i64 0, .slice none 0 0, .int .i64 0, .slice none 0 0] 29)
  have H75 := Lib.hid (find_read (he.on B0.out) (ht.on B0.out) (hp.on B0.out) hn)
  obtain ⟨o, ho⟩ : ∃ o, o = atT T (Pa.zText p) := ⟨_, rfl⟩
  obtain ⟨ok, hok⟩ : ∃ ok, ok = (T (Pa.zText p)).isSome := ⟨_, rfl⟩
  unfold RetFind at H75 ⊢
  rw [← ho, ← hok] at H75
  rw [← ho, ← hok]
  clear he ht hp hn ho hok
  go_enter Tryz.func23, Tryz.ntmps23
  go_wp2_with fail
  refine H75.out.mono ?_
  rintro e w1 ⟨hb1, v, rfl, hv, hwo⟩
  have B1 := Lib.hid (next_below B0.out hb1)
  have Z1 := Lib.hid (Z0.out.on hb1)
  have hal := fun O => (Below.refl w1.heap.size w1).alloc (Nat.le_refl _) O
  have H10 := Lib.hid (fun O => copy_any (hv.read (hal O)) hwo)
  have HW := Lib.hid hwo
  obtain ⟨vk, ⟨vl, vb, vo, ve, vm, rfl, ⟨Al, cl, rfl, -⟩, ⟨Ab, cb, rfl, -⟩, ⟨Ao, co, rfl, -⟩, ⟨Ae, ce, rfl, -⟩, ⟨Am, cm, rfl, -⟩⟩, ⟨Ak, ck, rfl, -⟩⟩ := hv
  obtain ⟨cs, hcs⟩ : ∃ cs : Array Value, cs = #[.int .i64 o.kind, .slice Al o.lab.length cl, .slice Ak o.kids.length ck, .int .i64 o.next, .slice Ab o.bytes.length cb, .slice Ao o.own.length co, .int .i64 o.cats, .slice Ae o.entry.length ce, .int .i64 o.ring, .slice Am o.maps.length cm] := ⟨_, rfl⟩
  have B2 := Lib.hid (next_below B1.out (hal (.cells cs 29)))
  have Z2 : Hid (BoxAt (w1.alloc (.cells cs 29)) w.heap.size _ 29) := Z1.out.alloc _
  have S2 : Hid (w.heap.size < (w1.alloc (.cells cs 29)).heap.size) := Z2.out.lt
  have CS := Lib.hid hcs
  clear hb1 hal hwo hcs
  go_wp2_with fail
  refine (H10.out _).mono ?_
  rintro e w3 ⟨hb3, v3, vk3, rfl, hrow, hobj⟩
  rw [← CS.out] at hb3 hrow hobj
  have B3 := Lib.hid (next_below B2.out hb3)
  have z3 := Z2.out.on hb3
  have Z3 := Lib.hid z3
  have hk3 := slv_row hrow
  have s2 := S2.out
  have hlt : w.heap.size < w3.heap.size := z3.lt
  have HO : Hid (∀ W, Tp.Kp (fun y => y = w.heap.size) w3 W → ObjAt W No v3 o) := fun W hW =>
    ⟨vk3, hobj.kp hW (fun b _ e => by subst e; exact .inl s2) (fun _ _ h => h.elim), hk3.kp hW (fun b _ e => by subst e; exact s2) (fun _ _ h => h.elim)⟩
  obtain ⟨vl3, vb3, vo3, ve3, vm3, rfl, ⟨Al3, cl3, rfl, -⟩, ⟨Ab3, cb3, rfl, -⟩, ⟨Ao3, co3, rfl, -⟩, ⟨Ae3, ce3, rfl, -⟩, ⟨Am3, cm3, rfl, -⟩⟩ := hobj
  obtain ⟨Ak3, ck3, rfl, -⟩ := hk3
  obtain ⟨r0, r1, r2, r3, r4, r5, r6, r7, r8, r9⟩ := box10 z3
  have fr := z3.frozen
  clear hb3 hrow z3
  go_wp2_with fail
  (try simp only [Exit.inBlock, Exit.then])
  refine bodyPost_ret (v := .tuple #[.agg #[.int .i64 o.kind, .slice Al3 o.lab.length cl3, .slice Ak3 o.kids.length ck3, .int .i64 o.next, .slice Ab3 o.bytes.length cb3, .slice Ao3 o.own.length co3, .int .i64 o.cats, .slice Ae3 o.entry.length ce3, .int .i64 o.ring, .slice Am3 o.maps.length cm3], .bool ok]) ?_ rfl ⟨?_, _, rfl, HO.out _ (kp_put10 _ _ _ _ _ _ _ _ _ _ _ _), HW.out⟩
  · rw [results_cell_tmp rfl]
    have hx := Z3.out.set10 (.int .i64 o.kind) (.slice Al3 o.lab.length cl3) (.slice Ak3 o.kids.length ck3) (.int .i64 o.next) (.slice Ab3 o.bytes.length cb3) (.slice Ao3 o.own.length co3) (.int .i64 o.cats) (.slice Ae3 o.entry.length ce3) (.int .i64 o.ring) (.slice Am3 o.maps.length cm3)
    obtain ⟨q0, q1, q2, q3, q4, q5, q6, q7, q8, q9⟩ := box10 hx
    unfold put10 at q0 q1 q2 q3 q4 q5 q6 q7 q8 q9
    go_simp
  · exact below_put10 B3.out (Nat.le_refl _) _ _ _ _ _ _ _ _ _ _
end Go.Proofs.YtgcbfggoddkhnaaGreatDoor

namespace Go.Proofs.YtgcbfggoddkhnaaGreatDoor
open Go.RowKit
structure TabIs (w : World) (F : Nat → Prop) (t bm n : Nat) (T : TT) (V K : List UInt8 → Value) : Prop where
  var : w.cell? ⟨t, 0, none⟩ = some (.map (some bm))
  map : MapV w bm n T V
  wide : ∀ s o, T s = some o → WideO o
  ob : ∀ s o, T s = some o → ObjK w F (V s) (K s) o
  row : ∀ s o, T s = some o → w.ownsRow 0 85 3 (K s) o.kids.length (kidCells o.kids)
  isF : F bm
  inF : ∀ s o, T s = some o → ∀ b, (K s).ownBlock = some b → F b
  ltF : ∀ b, F b → b < w.heap.size
  dist : ∀ s s' o o', T s = some o → T s' = some o' → s ≠ s' → ∀ b, (K s).ownBlock = some b → (K s').ownBlock ≠ some b
  notF : ¬ F t
theorem own_block {w : World} {base : Nat} {e : TypeId} {size : Nat} {v : Value} {n : Nat} {xs : List Value} (h : w.ownsRow base e size v n xs) {b : Nat} (hb : v.ownBlock = some b) : base ≤ b ∧ b < w.heap.size ∧ ∃ cur, w.heap[b]? = some (.cells cur e (0, 0)) := by
  rcases h.2 with ⟨rfl, _⟩ | ⟨g, cap, cur, rfl, hb0, hh, _⟩
  · simp [Value.ownBlock] at hb
  · simp [Value.ownBlock] at hb
    subst hb
    exact ⟨hb0, (Array.getElem?_eq_some_iff.1 hh).1, cur, hh⟩
theorem MapV.not_row {w : World} {b n : Nat} {T : TT} {V : List UInt8 → Value} (h : MapV w b n T V) {base : Nat} {e : TypeId} {size : Nat} {v : Value} {m : Nat} {xs : List Value} (hr : w.ownsRow base e size v m xs) : v.ownBlock ≠ some b := fun hb => by
  obtain ⟨D, ⟨es, clock, h1, _⟩, _⟩ := h
  obtain ⟨_, _, cur, h2⟩ := own_block hr hb
  rw [h1] at h2
  cases h2
theorem TabIs.tlt {w : World} {F : Nat → Prop} {t bm n : Nat} {T : TT} {V K : List UInt8 → Value} (h : TabIs w F t bm n T V K) : t < w.heap.size := World.block_lt_of_cell? w _ h.var
theorem TabIs.read {w w' : World} {F : Nat → Prop} {t bm n : Nat} {T : TT} {V K : List UInt8 → Value} (h : TabIs w F t bm n T V K) (hb : Below w.heap.size w w') : GivR w' t n T :=
  ⟨bm, V, (hb.cell (p := ⟨t, 0, none⟩) h.tlt).trans h.var, h.map.on hb, fun s o ho => ⟨h.wide s o ho, K s, (h.ob s o ho).on hb (fun _ _ h => h.elim), (slv_row (h.row s o ho)).on hb (fun _ _ h => h.elim)⟩⟩
theorem TabIs.kp {S : Nat → Prop} {w w' : World} {F : Nat → Prop} {t bm n : Nat} {T : TT} {V K : List UInt8 → Value} (h : TabIs w F t bm n T V K) (hk : Tp.Kp S w w') (hS : ∀ b, S b → w.heap.size ≤ b) : TabIs w' F t bm n T V K where
  var := hk.cell h.var fun e => by have := hS _ e; have := h.tlt; simp at *; omega
  map := h.map.kp hk fun e => by have := hS _ e; have := h.map.lt; omega
  wide := h.wide
  ob := fun s o ho => (h.ob s o ho).kp hk (fun b hb e => by have := hS _ e; omega) (fun _ _ h => h)
  row := fun s o ho => own_kp (h.row s o ho) hk fun b hb e => by have := hS _ e; have := (own_block (h.row s o ho) hb).2.1; omega
  isF := h.isF
  inF := h.inF
  ltF := fun b hb => Nat.lt_of_lt_of_le (h.ltF b hb) hk.size
  dist := h.dist
  notF := h.notF
theorem TabIs.on {w w' : World} {F : Nat → Prop} {t bm n : Nat} {T : TT} {V K : List UInt8 → Value} (h : TabIs w F t bm n T V K) (hb : Below w.heap.size w w') : TabIs w' F t bm n T V K :=
  h.kp (Tp.Kp.of_below hb fun _ => False) fun _ h => h.elim
theorem TabIs.more {w : World} {F : Nat → Prop} {t bm n m : Nat} {T : TT} {V K : List UInt8 → Value} (h : TabIs w F t bm n T V K) (hn : n ≤ m) : TabIs w F t bm m T V K := { h with map := h.map.more hn }
def Stp (w : World) (F : Nat → Prop) (w' : World) (F' : Nat → Prop) : Prop := Tp.Kp F w w' ∧ ∀ b, F' b → F b ∨ w.heap.size ≤ b
theorem Stp.of_below {w w' : World} {F : Nat → Prop} (h : Below w.heap.size w w') : Stp w F w' F := ⟨Tp.Kp.of_below h F, fun _ h => .inl h⟩
theorem Stp.trans {w w1 w2 : World} {F F1 F2 : Nat → Prop} (h : Stp w F w1 F1) (k : Stp w1 F1 w2 F2) : Stp w F w2 F2 := by
  refine ⟨h.1.andThen k.1 fun i hi h1 => (h.2 i h1).resolve_right (by omega), fun b hb => ?_⟩
  rcases k.2 b hb with h1 | h1
  · exact h.2 b h1
  · exact .inr (Nat.le_trans h.1.size h1)
def TabAt (w : World) (F : Nat → Prop) (t n : Nat) (T : TT) : Prop := ∃ bm V K, TabIs w F t bm n T V K
theorem TabAt.read {w w' : World} {F : Nat → Prop} {t n : Nat} {T : TT} (h : TabAt w F t n T) (hb : Below w.heap.size w w') : GivR w' t n T := by
  obtain ⟨bm, V, K, h⟩ := h
  exact h.read hb
theorem TabAt.on {w w' : World} {F : Nat → Prop} {t n : Nat} {T : TT} (h : TabAt w F t n T) (hb : Below w.heap.size w w') : TabAt w' F t n T := by
  obtain ⟨bm, V, K, h⟩ := h
  exact ⟨bm, V, K, h.on hb⟩
theorem TabAt.more {w : World} {F : Nat → Prop} {t n m : Nat} {T : TT} (h : TabAt w F t n T) (hn : n ≤ m) : TabAt w F t m T := by
  obtain ⟨bm, V, K, h⟩ := h
  exact ⟨bm, V, K, h.more hn⟩
set_option maxRecDepth 100000 in
theorem TabIs.put {w : World} {F : Nat → Prop} {t bm n : Nat} {T : TT} {V K : List UInt8 → Value} (h : TabIs w F t bm n T V K) (hn : n ≤ 100000000000) {s : List UInt8} (hs : s.length ≤ 100000000000) {v vk : Value} {o : Ob} (hw : WideO o)
    (hob : ObjK w (fun x => F x ∨ vk.ownBlock = some x) v vk o) (hrow : w.ownsRow 0 85 3 vk o.kids.length (kidCells o.kids)) (hnew : ∀ b, vk.ownBlock = some b → ¬ F b ∨ ∃ o', T s = some o' ∧ (K s).ownBlock = some b)
    (hold : ∀ s' o', T s' = some o' → s' ≠ s → ObjK w (fun x => F x ∨ vk.ownBlock = some x) (V s') (K s') o') (ht : vk.ownBlock ≠ some t) :
    TabIs (putW bm s v w) (fun x => F x ∨ vk.ownBlock = some x) t bm (n + 1) (updT T s o) (updV V s v) (updV K s vk) ∧ Tp.Kp (fun b => b = bm) w (putW bm s v w) := by
  obtain ⟨_, hm, hg⟩ := h.map.put hn hs v
  clear hn hs
  have hkp : Tp.Kp (fun b => b = bm) w (putW bm s v w) := (Tp.Kp.refl (fun b => b = bm) w).grown hg fun k e _ => by injection e with e; exact e.symm
  have hSF : ∀ b, b < w.heap.size → b = bm → F b ∨ vk.ownBlock = some b := fun b _ e => .inl (by rw [e]; exact h.isF)
  refine ⟨?_, hkp⟩
  refine { var := hkp.cell h.var (fun e => ?_), map := hm o, wide := fun s' o' h' => ?_, ob := fun s' o' h' => ?_, row := fun s' o' h' => ?_, isF := .inl h.isF, inF := fun s' o' h' b hb => ?_, ltF := fun b hb => ?_, dist := fun s1 s2 o1 o2 h1 h2 hne b hb => ?_, notF := ?_ }
  · exact h.map.ne h.var e
  · unfold updT at h'
    split at h'
    · injection h' with h'; subst h'; exact hw
    · exact h.wide s' o' h'
  · unfold updT at h'
    unfold updV
    split at h'
    · rename_i e
      injection h' with h'; subst h' e
      rw [if_pos rfl, if_pos rfl]
      exact hob.kp hkp hSF (fun _ _ h => h)
    · rename_i e
      rw [if_neg e, if_neg e]
      exact (hold s' o' h' e).kp hkp hSF (fun _ _ h => h)
  · unfold updT at h'
    unfold updV
    split at h'
    · rename_i e
      injection h' with h'; subst h' e
      rw [if_pos rfl]
      exact own_kp hrow hkp fun b hb e => h.map.not_row hrow (by rw [hb, e])
    · rename_i e
      rw [if_neg e]
      exact own_kp (h.row s' o' h') hkp fun b hb e => h.map.not_row (h.row s' o' h') (by rw [hb, e])
  · unfold updT at h'
    unfold updV at hb
    split at h'
    · rename_i e
      subst e
      rw [if_pos rfl] at hb
      exact .inr hb
    · rename_i e
      rw [if_neg e] at hb
      exact .inl (h.inF s' o' h' b hb)
  · refine Nat.lt_of_lt_of_le ?_ hkp.size
    rcases hb with hb | hb
    · exact h.ltF b hb
    · exact (own_block hrow hb).2.1
  · unfold updT at h1 h2
    unfold updV at hb ⊢
    split at h1
    · rename_i e1
      subst e1
      have e2 : ¬ s2 = s1 := fun e => hne e.symm
      rw [if_neg e2] at h2 ⊢
      rw [if_pos rfl] at hb
      intro hb2
      rcases hnew b hb with h3 | ⟨o', h3, h4⟩
      · exact h3 (h.inF s2 o2 h2 b hb2)
      · exact h.dist s1 s2 o' o2 h3 h2 hne b h4 hb2
    · rename_i e1
      rw [if_neg e1] at hb
      split at h2
      · rename_i e2
        subst e2
        rw [if_pos rfl]
        intro hb2
        rcases hnew b hb2 with h3 | ⟨o', h3, h4⟩
        · exact h3 (h.inF s1 o1 h1 b hb)
        · exact h.dist s1 s2 o1 o' h1 h3 hne b hb h4
      · rename_i e2
        rw [if_neg e2]
        exact h.dist s1 s2 o1 o2 h1 h2 hne b hb
  · rintro (hb | hb)
    · exact h.notF hb
    · exact ht hb
end Go.Proofs.YtgcbfggoddkhnaaGreatDoor

namespace Go.Proofs.YtgcbfggoddkhnaaGreatDoor
open Go.RowKit
def TapeS (w : World) (g : Nat) (k : Option Nat) (s : St) : Prop := Pa.TapeE w g k s.1 s.2
theorem TapeS.kp {S : Nat → Prop} {w w' : World} {g : Nat} {k : Option Nat} {s : St} (h : TapeS w g k s) (hk : Tp.Kp S w w') (hg : ¬ S g) (hr : ∀ j, k = some j → ¬ S j) : TapeS w' g k s := Pa.TapeE.kp h hk hg hr
theorem TapeS.lt {w : World} {g : Nat} {k : Option Nat} {s : St} (h : TapeS w g k s) : g < w.heap.size := Pa.TapeE.lt h
theorem TapeS.row_lt {w : World} {g : Nat} {k : Option Nat} {s : St} (h : TapeS w g k s) : ∀ j, k = some j → j < w.heap.size := by
  rcases h with ⟨_, h⟩ | ⟨_, T, x, h⟩
  · exact h.row_lt
  · exact h.row_lt
theorem TapeS.on {w w' : World} {g : Nat} {k : Option Nat} {s : St} (h : TapeS w g k s) (hb : Below w.heap.size w w') : TapeS w' g k s := h.kp (Tp.Kp.of_below hb fun _ => False) (fun h => h) (fun _ _ h => h)
def GotS (w : World) (g : Nat) (k : Option Nat) (s : St) (w' : World) : Prop := TapeS w' g k s ∧ Tp.Kp (fun b => b = g) w w'
theorem tapeS_num {w : World} {g : Nat} {k : Option Nat} {s : St} {most : Int} (h : TapeS w g k s) (hs : Tp.Sml s.1) (hn : s.1.length ≤ 80000000) :
    Calls Tryz.prog 90 #[.pointer (some ⟨g, 0, none⟩), .int .i64 most] w fun e w' => e = .returned (.int .i64 (nS most s).1) ∧ GotS w g k (nS most s).2 w' :=
  Pa.tape_any h hs (by omega)
theorem tapeS_txt {w : World} {g : Nat} {k : Option Nat} {s : St} {most : Int} (h : TapeS w g k s) (hs : Tp.Sml s.1) (hn : s.1.length ≤ 80000000) :
    Calls Tryz.prog 132 #[.pointer (some ⟨g, 0, none⟩), .int .i64 most] w fun e w' => e = .returned (.string (Tp.str (tS most s).1)) ∧ GotS w g k (tS most s).2 w' := by
  obtain ⟨l, ok⟩ := s
  rcases h with ⟨h1, h2⟩ | ⟨h1, T, x, h2⟩
  · simp only at h1
    subst h1
    refine (Tp.tape_text h2 hs (Nat.le_trans hn (by omega))).mono ?_
    rintro e w' ⟨hk, ⟨s, r, hl, hle, rfl, ht⟩ | ⟨hno, rfl, T, x, ht⟩⟩
    · have hsl : s.length < 9223372036854775808 := by
        have := congrArg List.length hl
        simp only [List.length_append] at this
        simp only at hn
        omega
      rw [tS_some hl hle hsl]
      exact ⟨rfl, .inl ⟨rfl, ht⟩, hk⟩
    · rw [tS_none hno]
      exact ⟨rfl, .inr ⟨rfl, T, x, ht⟩, hk⟩
  · simp only at h1
    subst h1
    refine (Tp.tape_text_fault h2).mono ?_
    rintro e w' ⟨rfl, rfl⟩
    exact ⟨rfl, .inr ⟨rfl, T, x, h2⟩, Tp.Kp.refl _ _⟩
set_option maxRecDepth 100000 in
theorem tapeS_flag {w : World} {g : Nat} {k : Option Nat} {s : St} (h : TapeS w g k s) (hs : Tp.Sml s.1) (hn : s.1.length ≤ 80000000) :
    Calls Tryz.prog 172 #[.pointer (some ⟨g, 0, none⟩)] w fun e w' => e = .returned (.bool (flagS s).1) ∧ GotS w g k (flagS s).2 w' := by
  have H := Lib.hid (tapeS_num (most := 1) h hs hn)
  have e1 : (flagS s).2 = (nS 1 s).2 := rfl
  have e2 : (flagS s).1 = decide ((nS 1 s).1 = 1) := rfl
  rw [e1, e2]
  obtain ⟨z, hz⟩ : ∃ z, z = (nS 1 s).1 := ⟨_, rfl⟩
  rw [← hz] at H
  rw [← hz]
  clear h hs e1 e2 hz
  by_cases h1 : z = 1
  · have q : (z == 1) = true := by simpa using h1
    have HD : Hid (decide (z = 1) = true) := decide_eq_true h1
    clear h1
    go_enter Tryz.func172, Tryz.ntmps172
    go_wp2_with fail
    refine H.out.mono ?_
    rintro e w1 ⟨rfl, h2⟩
    go_wp2_with fail
    go_ret
    exact ⟨by rw [HD.out] <;> rfl, h2⟩
  · have q : (z == 1) = false := by simpa using h1
    have HD : Hid (decide (z = 1) = false) := decide_eq_false h1
    clear h1
    go_enter Tryz.func172, Tryz.ntmps172
    go_wp2_with fail
    refine H.out.mono ?_
    rintro e w1 ⟨rfl, h2⟩
    go_wp2_with fail
    go_ret
    exact ⟨by rw [HD.out] <;> rfl, h2⟩
theorem tapeS_err {w : World} {g : Nat} {k : Option Nat} {s : St} (h : TapeS w g k s) : Calls Tryz.prog 126 #[.pointer (some ⟨g, 0, none⟩)] w fun e w' => ((s.2 = true ∧ e = .returned .nilIface) ∨ (s.2 = false ∧ ∃ T x, e = .returned (.iface T x))) ∧ w = w' := by
  rcases h with ⟨h1, h2⟩ | ⟨h1, T, x, h2⟩
  · exact (Tp.tape_err h2).mono fun e w' ⟨a, b⟩ => ⟨.inl ⟨h1, a⟩, b⟩
  · exact (Tp.tape_err h2).mono fun e w' ⟨a, b⟩ => ⟨.inr ⟨h1, T, x, a⟩, b⟩
theorem tS_len {most : Int} (hm : 0 ≤ most) (s : St) : ((tS most s).1.length : Int) ≤ most := by
  unfold tS
  split
  · split
    · rename_i x hx
      exact (txtAt_spec hx).2.1
    · simpa using hm
  · simpa using hm
theorem tS_sml {s : St} (hs : Tp.Sml s.1) (most : Int) : Tp.Sml (tS most s).1 := by
  unfold tS
  split
  · split
    · rename_i x hx
      exact fun c hc => hs c (by rw [(txtAt_spec hx).1]; exact List.mem_append_right _ (List.mem_append_left _ hc))
    · exact fun c hc => by cases hc
  · exact fun c hc => by cases hc
theorem nS_nat {most : Int} (hm : 0 ≤ most) (s : St) : ∃ N : Nat, (nS most s).1 = (N : Int) ∧ N = (nS most s).1.toNat ∧ (N : Int) ≤ most := by
  have h : 0 ≤ (nS most s).1 ∧ (nS most s).1 ≤ most := Pa.numStep_reach _ _ hm
  exact ⟨(nS most s).1.toNat, by omega, rfl, by omega⟩
theorem many_all {α : Type} {f : St → α × St} {P : α → Prop} {s : St} (h : ∀ m, P (f (many f m s).2).1) : ∀ n, ∀ x ∈ (many f n s).1, P x
  | 0 => fun x hx => by cases hx
  | n + 1 => fun x hx => by
    rw [many] at hx
    rcases List.mem_append.1 hx with hx | hx
    · exact many_all h n x hx
    · simp at hx; subst hx; exact h n
def okL (s : St) : Prop := (labS s).2.2 = true ∧ RightL (labS s).1
noncomputable instance (s : St) : Decidable (okL s) := inferInstanceAs (Decidable (_ ∧ _))
def LgRel (w : World) (g : Nat) (kk : Option Nat) (s : St) (N k : Nat) (v i : Value) (wr : World) : Prop :=
  ∃ m, m + k = N ∧ i = .int .i64 (m : Int) ∧ TapeS wr g kk (many entS m (nS 8 s).2).2 ∧ EntRow wr w.heap.size v (many entS m (nS 8 s).2).1 ∧ Tp.Kp (fun b => b = g) w wr
set_option maxRecDepth 100000 in
set_option maxHeartbeats 1000000 in
theorem labelGet_any {w : World} {g : Nat} {k : Option Nat} {s : St} (he : Env w) (hg8 : 8 ≤ g) (ht : TapeS w g k s) (hs : Tp.Sml s.1) (hn : s.1.length ≤ 80000000) :
    Calls Tryz.prog 130 #[.pointer (some ⟨g, 0, none⟩)] w fun e w' => GotS w g k (labS s).2 w' ∧ ((okL s ∧ ∃ v, e = .returned (.tuple #[v, .int .i64 0]) ∧ EntRow w' w.heap.size v (labS s).1) ∨ (¬ okL s ∧ e = .returned (.tuple #[.slice none 0 0, .int .i64 10]))) := by
  have hglt := ht.lt
  have HKL := Lib.hid ht.row_lt
  have HE := Lib.hid he
  obtain ⟨N, hN, hN2, hN8⟩ := nS_nat (most := 8) (by omega) s
  have HLS : Hid (labS s = many entS N (nS 8 s).2) := by unfold Hid labS cntS; rw [← hN2]
  have H90 := tapeS_num (most := 8) ht hs hn
  rw [hN] at H90
  have H90 := Lib.hid H90
  have hs1 : Tp.Sml (nS 8 s).2.1 ∧ (nS 8 s).2.1.length ≤ 80000000 := ⟨(nS_reads (by omega)).sml hs, Nat.le_trans ((nS_reads (by omega)).len s) hn⟩
  have HS1 := Lib.hid hs1
  have HM : Hid (∀ m, Tp.Sml (many entS m (nS 8 s).2).2.1 ∧ (many entS m (nS 8 s).2).2.1.length ≤ 80000000) := fun m => by
    have := many_sml entS_reads hs1.1 m
    exact ⟨this.1, Nat.le_trans this.2 hs1.2⟩
  have HX : Hid (∀ m, ∀ x ∈ (many entS m (nS 8 s).2).1, x.1.length ≤ 80) := fun m => many_all (P := fun x : Ent => x.1.length ≤ 80) (fun m => by
    show (cat (tS 80 _).1).length ≤ 80
    rw [catl_len]
    have := tS_len (most := 80) (by omega) (many entS m (nS 8 s).2).2
    omega) m
  obtain ⟨s1, hs1e⟩ : ∃ x, x = (nS 8 s).2 := ⟨_, rfl⟩
  have HS1E := Lib.hid hs1e
  rw [← hs1e] at HLS H90 HM HX HS1
  clear he ht hs hn hN hN2 hs1 hs1e
  go_enter Tryz.func130, Tryz.ntmps130
  go_wp2_with fail
  refine H90.out.mono ?_
  rintro e w1 ⟨rfl, ht1, hk1⟩
  have T1 := Lib.hid ht1
  have K1 := Lib.hid hk1
  clear ht1 hk1 H90
  go_wp2_with fail
  go_loopg [4, 8] N (fun c v i wr => LgRel w g k s N c v i wr)
  case atStart => exact ⟨0, by simp, rfl, by rw [← HS1E.out]; exact T1.out, World.ownsRow_nil _ _ _ _, K1.out⟩
  case round =>
    obtain ⟨m, hmk, hi, htp, hrow, hkp⟩ := hrel
    subst hi
    rw [← HS1E.out] at htp hrow
    have HT := Lib.hid htp
    have HROW := Lib.hid hrow
    have HK := Lib.hid hkp
    have hsz := hkp.size
    cases gk with
    | zero =>
      have hmn : m = N := by omega
      subst hmn
      rw [← HLS.out] at htp hrow HT HROW
      obtain ⟨A4, c4, hv4, hc4, hents⟩ := hrow.ents
      have hB : Below 8 w wr := hkp.below HE.out.1 (fun j hj => by rw [hj]; exact hg8)
      have hln : (labS s).1.length = m := by rw [HLS.out]; exact many_len _ _ _
      have H14 := Lib.hid (labelRight_any (c := c4) (HE.out.below hB (Nat.le_refl _)) hents (fun e he => by have := HX.out m e (by rw [← HLS.out]; exact he); omega) (by rw [hln]; unfold maxLen; omega))
      have H126 := Lib.hid (tapeS_err htp)
      have hge : ¬ m < m := by omega
      have HOK : Hid (okL s ↔ (labS s).2.2 = true ∧ RightL (labS s).1) := Iff.rfl
      subst hv4
      clear hrow hkp htp hB hents hln hc4
      rcases hok : (labS s).2.2 with _ | _
      · have HNO : Hid (¬ okL s) := fun h => by have := (HOK.out.1 h).1; rw [hok] at this; cases this
        have J : Hid (Calls Tryz.prog 126 #[.pointer (some ⟨g, 0, none⟩)] wr fun e w' => (∃ T x, e = .returned (.iface T x)) ∧ wr = w') := H126.out.mono fun e w' ⟨h, hw⟩ => ⟨(by
          rcases h with ⟨h1, _⟩ | ⟨_, h2⟩
          · rw [hok] at h1; cases h1
          · exact h2), hw⟩
        clear hok
        go_wp2_with (first | (go_at_call 126; refine J.out.mono ?_; rintro e w' ⟨⟨T, x, rfl⟩, rfl⟩))
        go_ret2
        exact ⟨⟨HT.out, HK.out⟩, .inr ⟨HNO.out, rfl⟩⟩
      · have J : Hid (Calls Tryz.prog 126 #[.pointer (some ⟨g, 0, none⟩)] wr fun e w' => e = .returned .nilIface ∧ wr = w') := H126.out.mono fun e w' ⟨h, hw⟩ => ⟨(by
          rcases h with ⟨_, h1⟩ | ⟨h2, _⟩
          · exact h1
          · rw [hok] at h2; cases h2), hw⟩
        by_cases hr : RightL (labS s).1
        · rw [decide_eq_true hr] at H14
          have HYES : Hid (okL s) := HOK.out.2 ⟨hok, hr⟩
          clear hok hr
          go_wp2_with (first
            | (go_at_call 58; refine H14.out.mono ?_; rintro e w2 ⟨rfl, hb2⟩)
            | (go_at_call 126; refine J.out.mono ?_; rintro e w' ⟨rfl, rfl⟩))
          go_ret2
          exact ⟨⟨HT.out.on hb2, HK.out.andThen (Tp.Kp.of_below hb2 _) fun _ _ h => h⟩, .inl ⟨HYES.out, _, rfl, own_on HROW.out hb2⟩⟩
        · rw [decide_eq_false hr] at H14
          have HNO : Hid (¬ okL s) := fun h => hr (HOK.out.1 h).2
          clear hok hr
          go_wp2_with (first
            | (go_at_call 58; refine H14.out.mono ?_; rintro e w2 ⟨rfl, hb2⟩)
            | (go_at_call 126; refine J.out.mono ?_; rintro e w' ⟨rfl, rfl⟩))
          go_ret2
          exact ⟨⟨HT.out.on hb2, HK.out.andThen (Tp.Kp.of_below hb2 _) fun _ _ h => h⟩, .inr ⟨HNO.out, rfl⟩⟩
    | succ j =>
      have hm : m < N := by omega
      obtain ⟨hsm, hln⟩ := HM.out m
      have H132 := tapeS_txt (most := 80) htp hsm hln
      rw [cat_str (tS_sml hsm 80)] at H132
      have H132 := Lib.hid H132
      have hsm2 : Tp.Sml (tS 80 (many entS m s1).2).2.1 ∧ (tS 80 (many entS m s1).2).2.1.length ≤ 80000000 := ⟨(tS_reads (by omega)).sml hsm, Nat.le_trans ((tS_reads (by omega)).len _) hln⟩
      have HS2 := Lib.hid hsm2
      have hml := many_len entS s1 m
      have HMANY : Hid (many entS (m + 1) s1 = ((many entS m s1).1 ++ [(cat (tS 80 (many entS m s1).2).1, (nS 3 (tS 80 (many entS m s1).2).2).1)], (nS 3 (tS 80 (many entS m s1).2).2).2)) := rfl
      obtain ⟨st, hst⟩ : ∃ st, st = many entS m s1 := ⟨_, rfl⟩
      obtain ⟨t, htt⟩ : ∃ t, t = cat (tS 80 st.2).1 := ⟨_, rfl⟩
      obtain ⟨u, hu⟩ : ∃ u, u = (tS 80 st.2).2 := ⟨_, rfl⟩
      obtain ⟨z, hz⟩ : ∃ z, z = (nS 3 u).1 := ⟨_, rfl⟩
      rw [← hst] at H132 HS2 HMANY HROW hml
      rw [← htt, ← hu] at H132 HMANY
      rw [← hu] at HS2
      rw [← hz] at HMANY
      have HMK := Lib.hid hmk
      have HZ := Lib.hid hz
      have hle : st.1.length + [(t, z)].length ≤ 100000001 := by simp; omega
      clear htp hrow hkp hmk hsm hln hsm2 hst htt hu hz hml
      go_wp2_with fail
      refine H132.out.mono ?_
      rintro e w2 ⟨rfl, ht2, hk2⟩
      have K2 : Hid (Tp.Kp (fun b => b = g) w w2) := HK.out.andThen hk2 (fun _ _ h => h)
      have R2 : Hid (EntRow w2 w.heap.size _ st.1) := own_kp HROW.out hk2 (fun j hj e => by have := (own_block HROW.out hj).1; omega)
      have H90b := tapeS_num (most := 3) ht2 HS2.out.1 HS2.out.2
      rw [← HZ.out] at H90b
      have H90b := Lib.hid H90b
      clear hk2 ht2 H132
      go_wp2_with fail
      refine H90b.out.mono ?_
      rintro e w3 ⟨rfl, ht3, hk3⟩
      have K3 : Hid (Tp.Kp (fun b => b = g) w w3) := K2.out.andThen hk3 (fun _ _ h => h)
      have R3 : Hid (EntRow w3 w.heap.size _ st.1) := own_kp R2.out hk3 (fun j hj e => by have := (own_block R2.out hj).1; omega)
      have T3 := Lib.hid ht3
      have hs3 := K3.out.size
      have hbase : w.heap.size ≤ (w3.alloc (.cells #[.string (str t), .int .i64 z] 42)).heap.size := by simp; omega
      have hg3 := ht3.lt
      clear hk3 ht3 H90b
      go_wp2_with (first
        | (at_builtin; refine wpList_append_ents rfl _ _ 23 Tryz.underlying23 rfl w.heap.size _ _ rfl (World.ownsRow.alloc R3.out _) (w3.heap.size + 1) (some ⟨w3.heap.size, 0, none⟩) 1 [(t, z)] rfl (ents_one _ _ _) (fun h => by cases h) hle hbase ?_))
      intro v' w4 hown hb4
      have R4 := Lib.hid hown
      have hall : Below w.heap.size w3 w4 := ((Below.refl _ _).alloc hs3 _).trans hb4
      have K4 : Hid (Tp.Kp (fun b => b = g) w w4) := ⟨hall.os.trans K3.out.os, hall.tape.trans K3.out.tape, hall.output.trans K3.out.output, Nat.le_trans K3.out.size hall.size, fun j hj hne => (hall.block j hj).trans (K3.out.block j hj hne)⟩
      have T4 := Lib.hid (T3.out.kp (S := fun j => w.heap.size ≤ j) ⟨hall.os, hall.tape, hall.output, hall.size, fun j _ hne => hall.block j (by omega)⟩ (by omega) (fun j hj => by have := HKL.out j hj; omega))
      clear hown hb4 hall
      go_wp2_with fail
      go_roundg j
      case measure => omega
      case rel => exact ⟨m + 1, by have := HMK.out; omega, by go_num, by rw [← HS1E.out, HMANY.out]; exact T4.out, by rw [← HS1E.out, HMANY.out]; exact R4.out, K4.out⟩
end Go.Proofs.YtgcbfggoddkhnaaGreatDoor
