/- Lemmas for the law: Ue, Va. -/
import Derived.Test.YtgcbfggoddkhnaaGreatDoorM23
import Derived.Test.YtgcbfggoddkhnaaGreatDoorM11
import Derived.Test.YtgcbfggoddkhnaaGreatDoorM25
import Derived.Test.YtgcbfggoddkhnaaGreatDoorM24
import Derived.Test.YtgcbfggoddkhnaaGreatDoorM21
import Derived.Deep.AppendLies
import Derived.Deep.RegionLaw
import Derived.Deep.RegionHeld3
namespace Go.Proofs.YtgcbfggoddkhnaaGreatDoor
open Go.RowKit
structure Opn where
 kind : Int
 path : List Int
 ob : Ob
 num : Int
def OpIs (w : World) (b o : Nat) (x : Opn) : Prop :=
 ∃ (Ap : Option Addr) (cp : Nat) (zk : Int) (AL : Option Addr) (nL cL : Nat) (Ak : Option Addr) (nk ck : Nat) (nx : Int) (AB : Option Addr) (nB cB : Nat) (AO : Option Addr) (nO cO : Nat) (ca : Int) (AN : Option Addr) (nN cN : Nat) (ri : Int) (AM : Option Addr) (nM cM : Nat),
  w.cell? ⟨b, o, none⟩ = some (.int .i64 x.kind) ∧ w.cell? ⟨b, o + 1, none⟩ = some (.slice Ap x.path.length cp) ∧ w.cell? ⟨b, o + 2, none⟩ = some (.int .i64 zk) ∧ w.cell? ⟨b, o + 3, none⟩ = some (.slice AL nL cL) ∧ w.cell? ⟨b, o + 4, none⟩ = some (.slice Ak nk ck) ∧ w.cell? ⟨b, o + 5, none⟩ = some (.int .i64 nx) ∧ w.cell? ⟨b, o + 6, none⟩ = some (.slice AB nB cB) ∧ w.cell? ⟨b, o + 7, none⟩ = some (.slice AO nO cO) ∧ w.cell? ⟨b, o + 8, none⟩ = some (.int .i64 ca) ∧ w.cell? ⟨b, o + 9, none⟩ = some (.slice AN nN cN) ∧ w.cell? ⟨b, o + 10, none⟩ = some (.int .i64 ri) ∧ w.cell? ⟨b, o + 11, none⟩ = some (.slice AM nM cM) ∧ w.cell? ⟨b, o + 12, none⟩ = some (.int .i64 x.num) ∧
  Pa.PL w Ap cp x.path ∧ ObjAt w No (.agg #[.int .i64 zk, .slice AL nL cL, .slice Ak nk ck, .int .i64 nx, .slice AB nB cB, .slice AO nO cO, .int .i64 ca, .slice AN nN cN, .int .i64 ri, .slice AM nM cM]) x.ob
structure WideP (x : Opn) : Prop where
 kind : W64 x.kind
 num : W64 x.num
 path : x.path.length ≤ 1048576
 ob : WideO x.ob
theorem OpIs.on {w w' : World} {b o : Nat} {x : Opn} (h : OpIs w b o x) (hb : Below w.heap.size w w') : OpIs w' b o x := by
 obtain ⟨Ap, cp, zk, AL, nL, cL, Ak, nk, ck, nx, AB, nB, cB, AO, nO, cO, ca, AN, nN, cN, ri, AM, nM, cM, h0, h1, k0, k1, k2, k3, k4, k5, k6, k7, k8, k9, h12, hp, ho⟩ := h
 have hlt : b < w.heap.size := World.block_lt_of_cell? w _ h0
 have hc : ∀ {k : Nat} {v : Value}, w.cell? ⟨b, k, none⟩ = some v → w'.cell? ⟨b, k, none⟩ = some v := fun h => (hb.cell (p := ⟨b, _, none⟩) hlt).trans h
 exact ⟨Ap, cp, zk, AL, nL, cL, Ak, nk, ck, nx, AB, nB, cB, AO, nO, cO, ca, AN, nN, cN, ri, AM, nM, cM, hc h0, hc h1, hc k0, hc k1, hc k2, hc k3, hc k4, hc k5, hc k6, hc k7, hc k8, hc k9, hc h12, hp.on hb, ho.read hb⟩
def OpsL (w : World) (A : Option Addr) (l : List Opn) : Prop :=
 (0 < l.length → ∃ b o, A = some ⟨b, o, none⟩ ∧ ∀ (i : Nat) (x : Opn), l[i]? = some x → OpIs w b (o + i * 13) x) ∧ (∀ x ∈ l, WideP x) ∧ l.length ≤ 1048576
def GreatO (o : Ob) : Prop := 60 < o.lab.length + o.kids.length ∨ 600 < o.bytes.length ∨ 60 < o.own.length + o.maps.length ∨ 30 < o.entry.length
instance (o : Ob) : Decidable (GreatO o) := inferInstanceAs (Decidable (_ ∨ _))
set_option maxRecDepth 100000 in
set_option maxHeartbeats 1000000 in
theorem great_any {w : World} {F : Nat → Prop} {v : Value} {o : Ob} (h : ObjAt w F v o) (hw : WideO o) : Calls Tryz.prog 9 #[v] w (RetB w (.bool (decide (GreatO o)))) := by
 obtain ⟨vk, ⟨vl, vb, vo, ve, vm, rfl, ⟨Al, cl, rfl, -⟩, ⟨Ab, cb, rfl, -⟩, ⟨Ao, co, rfl, -⟩, ⟨Ae, ce, rfl, -⟩, ⟨Am, cm, rfl, -⟩⟩, ⟨Ak, ck, rfl, -⟩⟩ := h
 have b1 := hw.lab.1
 have b2 := hw.kids.1
 have b3 := hw.bytes.1
 have b4 := hw.own.1
 have b5 := hw.maps.1
 have b6 := hw.entry.1
 clear hw
 unfold GreatO
 obtain ⟨ozk, e1⟩ : ∃ z, z = o.kind := ⟨_, rfl⟩
 obtain ⟨onx, e2⟩ : ∃ z, z = o.next := ⟨_, rfl⟩
 obtain ⟨oca, e3⟩ : ∃ z, z = o.cats := ⟨_, rfl⟩
 obtain ⟨ori, e4⟩ : ∃ z, z = o.ring := ⟨_, rfl⟩
 obtain ⟨nl, e5⟩ : ∃ z, z = o.lab.length := ⟨_, rfl⟩
 obtain ⟨nk, e6⟩ : ∃ z, z = o.kids.length := ⟨_, rfl⟩
 obtain ⟨nb, e7⟩ : ∃ z, z = o.bytes.length := ⟨_, rfl⟩
 obtain ⟨no, e8⟩ : ∃ z, z = o.own.length := ⟨_, rfl⟩
 obtain ⟨nm, e9⟩ : ∃ z, z = o.maps.length := ⟨_, rfl⟩
 obtain ⟨ne, e0⟩ : ∃ z, z = o.entry.length := ⟨_, rfl⟩
 simp only [← e1, ← e2, ← e3, ← e4, ← e5, ← e6, ← e7, ← e8, ← e9, ← e0] at *
 clear e1 e2 e3 e4 e5 e6 e7 e8 e9 e0
 obtain ⟨k0, k1, k2, k3, k4, k5, k6, k7, k8, k9⟩ := box10 (BoxAt.new w #[.int .i64 ozk, .slice Al nl cl, .slice Ak nk ck, .int .i64 onx, .slice Ab nb cb, .slice Ao no co, .int .i64 oca, .slice Ae ne ce, .int .i64 ori, .slice Am nm cm] 29)
 have HB := Lib.hid ((Below.refl w.heap.size w).alloc (Nat.le_refl _) (.cells #[.int .i64 ozk, .slice Al nl cl, .slice Ak nk ck, .int .i64 onx, .slice Ab nb cb, .slice Ao no co, .int .i64 oca, .slice Ae ne ce, .int .i64 ori, .slice Am nm cm] 29))
 by_cases h1 : 60 < nl + nk
 · have h1' : (60 : Int) < (nl : Int) + nk := by omega
   rw [decide_eq_true (.inl h1)]
   clear h1
   go_enter Tryz.func9, Tryz.ntmps9
   go_wp2_with fail
   go_ret
   exact ⟨rfl, HB.out⟩
 have h1' : ¬ (60 : Int) < (nl : Int) + nk := by omega
 by_cases h2 : 600 < nb
 · have h2' : (600 : Int) < (nb : Int) := by omega
   rw [decide_eq_true (.inr (.inl h2))]
   clear h1 h2
   go_enter Tryz.func9, Tryz.ntmps9
   go_wp2_with fail
   go_ret
   exact ⟨rfl, HB.out⟩
 have h2' : ¬ (600 : Int) < (nb : Int) := by omega
 by_cases h3 : 60 < no + nm
 · have h3' : (60 : Int) < (no : Int) + nm := by omega
   rw [decide_eq_true (.inr (.inr (.inl h3)))]
   clear h1 h2 h3
   go_enter Tryz.func9, Tryz.ntmps9
   go_wp2_with fail
   go_ret
   exact ⟨rfl, HB.out⟩
 have h3' : ¬ (60 : Int) < (no : Int) + nm := by omega
 by_cases h4 : 30 < ne
 · have h4' : (30 : Int) < (ne : Int) := by omega
   rw [decide_eq_true (.inr (.inr (.inr h4)))]
   clear h1 h2 h3 h4
   go_enter Tryz.func9, Tryz.ntmps9
   go_wp2_with fail
   go_ret
   exact ⟨rfl, HB.out⟩
 have h4' : ¬ (30 : Int) < (ne : Int) := by omega
 rw [decide_eq_false (fun h => h.elim h1 fun h => h.elim h2 fun h => h.elim h3 h4)]
 clear h1 h2 h3 h4
 go_enter Tryz.func9, Tryz.ntmps9
 go_wp2_with fail
 go_ret
 exact ⟨rfl, HB.out⟩
end Go.Proofs.YtgcbfggoddkhnaaGreatDoor
namespace Go.Proofs.YtgcbfggoddkhnaaGreatDoor
open Go.RowKit
open Go.Lib Go.Sort
theorem entCells_odd : ∀ {l : List Ent} {j : Nat} {u : Value}, (entCells l)[j * 2 + 1]? = some u → ∃ z, u = .int .i64 z
 | [], j, u, h => by simp [entCells] at h
 | (s, z) :: r, 0, u, h => ⟨z, by simpa [entCells] using h.symm⟩
 | (s, z) :: r, j + 1, u, h => entCells_odd (l := r) (j := j) (by rw [show (j + 1) * 2 + 1 = (j * 2 + 1) + 2 by omega] at h; simpa [entCells] using h)
def RtG (wx : World) (b2 b3 cx : Nat) (v : Value) (o : Ob) (ss : List Value) (n : Nat) (k : Nat) (i : Value) (wr : World) : Prop :=
 ∃ (m : Nat) (xs : List Value), m + k = n ∧ i = .int .i64 (m : Int) ∧ wr.ownsRow b2 45 3 v n xs ∧ xs.length = n * 3 ∧ (∀ (j : Nat) (s : Value), m ≤ j → j < n → ss[j]? = some s → xs[j * 3 + 1]? = some s) ∧
  (∀ (j : Nat) (x : Mp) (s : Value), m ≤ j → o.maps[j]? = some x → ss[j]? = some s → wr.ownsRow b3 3 1 s x.2.1.length (Pa.zCellsOf x.2.1)) ∧ Tp.Kp (fun y => b2 ≤ y ∧ y < cx) wx wr
def RtL (wx : World) (base : Nat) (v : Value) (n : Nat) (k : Nat) (i : Value) (wr : World) : Prop :=
 ∃ m, m + k = n ∧ i = .int .i64 (m : Int) ∧ (∃ xs, wr.ownsRow base 42 2 v n xs ∧ xs.length = n * 2 ∧ ∀ (j : Nat) (u : Value), xs[j * 2 + 1]? = some u → ∃ z, u = .int .i64 z) ∧ Tp.Kp (fun y => v.ownBlock = some y) wx wr
theorem own_cut0 {W : World} {base : Nat} {e : TypeId} {size : Nat} {A : Option Addr} {c n : Nat} {xs : List Value} (h : W.ownsRow base e size (.slice A n c) n xs) : W.ownsRow base e size (.slice A 0 c) 0 [] := by
 rcases h.2 with ⟨h1, h2⟩ | ⟨g, cap, cur, h1, h2, h3, h4, h5, h6, h7⟩
 · injection h1 with q1 q2 q3
   subst q1 q3
   exact ⟨by simp, .inl ⟨rfl, rfl⟩⟩
 · injection h1 with q1 q2 q3
   subst q1 q3
   exact ⟨by simp, .inr ⟨g, c, cur, rfl, h2, h3, Nat.zero_le _, h5, h6, by simp⟩⟩
theorem cellsOf_get {l : List Nat} {j : Nat} {u : Value} (h : (Tp.cellsOf l)[j]? = some u) : ∃ x : Int, u = .int .u8 x := by
 unfold Tp.cellsOf at h
 rw [List.getElem?_map] at h
 cases hc : l[j]? with
 | none => rw [hc] at h; cases h
 | some y => rw [hc] at h; injection h with h; exact ⟨_, h.symm⟩
def BtRow (W : World) (base : Nat) (v : Value) (n : Nat) : Prop := ∃ xs, W.ownsRow base 5 1 v n xs ∧ xs.length = n ∧ ∀ (j : Nat) (u : Value), xs[j]? = some u → ∃ z, u = .int .u8 z
def RtB (wx : World) (base : Nat) (v : Value) (n : Nat) (k : Nat) (i : Value) (wr : World) : Prop :=
 ∃ m, m + k = n ∧ i = .int .i64 (m : Int) ∧ BtRow wr base v n ∧ Tp.Kp (fun y => v.ownBlock = some y) wx wr
set_option maxRecDepth 100000 in
set_option maxHeartbeats 4000000 in
theorem objects_any {w : World} {F : Nat → Prop} {v : Value} {o : Ob} (he : Env w) (h : ObjAt w F v o) (hw : WideO o) (hB : (obBytes o).length ≤ 10000000) : Calls Tryz.prog 3 #[v] w (RetB w (.bool true)) := by
 obtain ⟨zk, AL, nL, cL, Ak, nk, ck, nx, AB, nB, cB, AO, nO, cO, ca, AN, nN, cN, ri, AM, nM, cM, rfl⟩ := h.shape
 have HV : Hid (∀ W, Below w.heap.size w W → ObjAt W No (.agg #[.int .i64 zk, .slice AL nL cL, .slice Ak nk ck, .int .i64 nx, .slice AB nB cB, .slice AO nO cO, .int .i64 ca, .slice AN nN cN, .int .i64 ri, .slice AM nM cM]) o) := fun W hW => h.read hW
 have HVF : Hid (∀ W G, Below w.heap.size w W → (∀ b, G b → w.heap.size ≤ b) → ObjAt W G (.agg #[.int .i64 zk, .slice AL nL cL, .slice Ak nk ck, .int .i64 nx, .slice AB nB cB, .slice AO nO cO, .int .i64 ca, .slice AN nN cN, .int .i64 ri, .slice AM nM cM]) o) := fun W G hW hG => h.on hW fun b hb hg => by have := hG b hg; omega
 have HE : Hid (∀ W, Below w.heap.size w W → Env W) := fun W hW => he.on hW
 have HW := Lib.hid hw
 have HLEN := Lib.hid hB
 obtain ⟨T, hT⟩ : ∃ T, T = Tp.str (obBytes o) := ⟨_, rfl⟩
 have C8 : Hid (∀ W, Below w.heap.size w W → Calls Tryz.prog 8 #[] W (RetB W (.bool true))) := fun W hW => first_any (HE.out W hW)
 have C9 : Hid (∀ W, Below w.heap.size w W → Calls Tryz.prog 9 #[.agg #[.int .i64 zk, .slice AL nL cL, .slice Ak nk ck, .int .i64 nx, .slice AB nB cB, .slice AO nO cO, .int .i64 ca, .slice AN nN cN, .int .i64 ri, .slice AM nM cM]] W (RetB W (.bool (decide (GreatO o))))) := fun W hW => great_any (HV.out W hW) hw
 have C10 : Hid (∀ W, Below w.heap.size w W → Calls Tryz.prog 10 #[.agg #[.int .i64 zk, .slice AL nL cL, .slice Ak nk ck, .int .i64 nx, .slice AB nB cB, .slice AO nO cO, .int .i64 ca, .slice AN nN cN, .int .i64 ri, .slice AM nM cM]] W (RetOwn W o)) := fun W hW => copy_own (HV.out W hW) hw
 have C11 : Hid (∀ W, Below w.heap.size w W → Calls Tryz.prog 11 #[.agg #[.int .i64 zk, .slice AL nL cL, .slice Ak nk ck, .int .i64 nx, .slice AB nB cB, .slice AO nO cO, .int .i64 ca, .slice AN nN cN, .int .i64 ri, .slice AM nM cM]] W (RetB W (.string T))) := fun W hW => by
   rw [hT]; exact refPut9_any (HV.out W hW) hw (by omega)
 have HT := Lib.hid hT
 clear he h hw hB hT
 obtain ⟨w0, hw0⟩ : ∃ W, W = w.alloc (.cells #[.int .i64 zk, .slice AL nL cL, .slice Ak nk ck, .int .i64 nx, .slice AB nB cB, .slice AO nO cO, .int .i64 ca, .slice AN nN cN, .int .i64 ri, .slice AM nM cM] 29) := ⟨_, rfl⟩
 obtain ⟨bx, hbx⟩ : ∃ b, b = w.heap.size := ⟨_, rfl⟩
 have X0 : BoxAt w0 bx #[.int .i64 zk, .slice AL nL cL, .slice Ak nk ck, .int .i64 nx, .slice AB nB cB, .slice AO nO cO, .int .i64 ca, .slice AN nN cN, .int .i64 ri, .slice AM nM cM] 29 := by rw [hw0, hbx]; exact BoxAt.new _ _ _
 have B0 : Below w.heap.size w w0 := by rw [hw0]; exact (Below.refl _ _).alloc (Nat.le_refl _) _
 have X0 := Lib.hid X0
 have B0 := Lib.hid B0
 have HBX : Hid (bx = w.heap.size) := hbx
 go_enter Tryz.func3, Tryz.ntmps3
 go_wp2_with fail
 rw [← hw0, ← hbx]
 clear hw0 hbx
 refine (C8.out w0 B0.out).mono ?_
 rintro e w1 ⟨rfl, hb⟩
 have B1 := Lib.hid (next_below B0.out hb)
 have X1 := Lib.hid (X0.out.on hb)
 clear hb C8
 obtain ⟨q0, q1, q2, q3, q4, q5, q6, q7, q8, q9⟩ := box10 X1.out
 go_wp2_with fail
 refine (C9.out w1 B1.out).mono ?_
 rintro e w2 ⟨rfl, hb⟩
 have B2 := Lib.hid (next_below B1.out hb)
 have X2 := Lib.hid (X1.out.on hb)
 clear hb C9 q0 q1 q2 q3 q4 q5 q6 q7 q8 q9
 by_cases hg : GreatO o
 · rw [decide_eq_true hg]
   clear hg
   go_wp2_with fail
   go_ret
   exact ⟨rfl, B2.out⟩
 rw [decide_eq_false hg]
 have HG := Lib.hid hg
 clear hg
 obtain ⟨q0, q1, q2, q3, q4, q5, q6, q7, q8, q9⟩ := box10 X2.out
 go_wp2_with fail
 refine (C10.out w2 B2.out).mono ?_
 rintro e w3 ⟨hb, vc, vkc, rfl, hkc, hoc, hcc⟩
 have B3 := Lib.hid (next_below B2.out hb)
 have X3 := Lib.hid (X2.out.on hb)
 obtain ⟨yk, Al, jl, sl, Ax, jx, sx, yn, Ab, jb, sb, Ao, jo, so, yc, Ae, je, se, yr, Am, jm, sm, esh⟩ := hoc.shape (slv_row hkc)
 obtain ⟨vl, vb, vo, ve, vm, ss, b1, b2, b3, rfl, h12, h23, h34, olab, hlab, obs, hbs, oms, hms, hssl, hsegs, hne⟩ := hcc
 injection esh with esh
 simp only [Array.mk.injEq, List.cons.injEq] at esh
 obtain ⟨-, -, -, -, -, rfl, -, rfl, -, -, -⟩ := esh
 obtain ⟨dl, el, rfl⟩ : ∃ A c, vl = .slice A o.lab.length c := by obtain ⟨A, c, h, _⟩ := slv_row olab; exact ⟨A, c, h⟩
 obtain ⟨dk, ek, rfl⟩ : ∃ A c, vkc = .slice A o.kids.length c := by obtain ⟨A, c, h, _⟩ := slv_row hkc; exact ⟨A, c, h⟩
 obtain ⟨db, eb, rfl⟩ : ∃ A c, vb = .slice A o.bytes.length c := by obtain ⟨A, c, h, _⟩ := slv_row obs; exact ⟨A, c, h⟩
 obtain ⟨dm, em, rfl⟩ : ∃ A c, vm = .slice A o.maps.length c := by obtain ⟨A, c, h, _⟩ := slv_row oms; exact ⟨A, c, h⟩
 clear hb C10 q0 q1 q2 q3 q4 q5 q6 q7 q8 q9
 obtain ⟨q0, q1, q2, q3, q4, q5, q6, q7, q8, q9⟩ := box10 X3.out
 have OC := Lib.hid hoc
 have HC3 : Hid (ObjAt w3 No (.agg #[.int .i64 o.kind, .slice dl o.lab.length el, .slice dk o.kids.length ek, .int .i64 o.next, .slice db o.bytes.length eb, .slice Ao jo so, .int .i64 o.cats, .slice Ae je se, .int .i64 o.ring, .slice dm o.maps.length em]) o) := ⟨_, hoc.on (Below.refl _ _) fun _ _ h => h.elim, (slv_row hkc).on (Below.refl _ _) fun _ _ h => h.elim⟩
 have OL := Lib.hid olab
 have OB := Lib.hid obs
 have OM := Lib.hid oms
 have HL := Lib.hid hlab
 have HBS := Lib.hid hbs
 have HMS := Lib.hid hms
 have HSS := Lib.hid hssl
 have HSG := Lib.hid hsegs
 have HNE := Lib.hid hne
 have HO := Lib.hid (⟨h12, h23, h34⟩ : w2.heap.size ≤ b1 ∧ b1 ≤ b2 ∧ b2 ≤ b3)
 clear hoc hkc olab obs oms hlab hbs hms hssl hsegs hne h12 h23 h34
 obtain ⟨W4, hW4⟩ : ∃ W, W = w3.alloc (.cells #[.int .i64 o.kind, .slice dl o.lab.length el, .slice dk o.kids.length ek, .int .i64 o.next, .slice db o.bytes.length eb, .slice Ao jo so, .int .i64 o.cats, .slice Ae je se, .int .i64 o.ring, .slice dm o.maps.length em] 29) := ⟨_, rfl⟩
 obtain ⟨cx, hcx⟩ : ∃ b, b = w3.heap.size := ⟨_, rfl⟩
 have hb : Below w3.heap.size w3 W4 := by rw [hW4]; exact (Below.refl _ _).alloc (Nat.le_refl _) _
 have Y4 : Hid (BoxAt W4 cx #[.int .i64 o.kind, .slice dl o.lab.length el, .slice dk o.kids.length ek, .int .i64 o.next, .slice db o.bytes.length eb, .slice Ao jo so, .int .i64 o.cats, .slice Ae je se, .int .i64 o.ring, .slice dm o.maps.length em] 29) := by rw [hW4, hcx]; exact BoxAt.new _ _ _
 have B4 := Lib.hid (next_below B3.out hb)
 have X4 := Lib.hid (X3.out.on hb)
 have E34 := Lib.hid hb
 have HCX : Hid (cx = w3.heap.size) := hcx
 go_upto_region 6 with fail
 rw [← hW4, ← hcx]
 clear hb hW4 hcx q0 q1 q2 q3 q4 q5 q6 q7 q8 q9
 obtain ⟨q0, q1, q2, q3, q4, q5, q6, q7, q8, q9⟩ := box10 X4.out
 go_wp2_with fail
 refine (C11.out W4 B4.out).mono ?_
 rintro e w5 ⟨rfl, hb⟩
 have B5 := Lib.hid (next_below B4.out hb)
 have X5 := Lib.hid (X4.out.on hb)
 have Y5 := Lib.hid (Y4.out.on hb)
 have E45 := Lib.hid hb
 clear q0 q1 q2 q3 q4 q5 q6 q7 q8 q9
 obtain ⟨W6, hW6⟩ : ∃ W, W = w5.alloc (.cells #[.slice none 0 0] 36) := ⟨_, rfl⟩
 obtain ⟨px, hpx⟩ : ∃ b, b = w5.heap.size := ⟨_, rfl⟩
 have hb6 : Below w5.heap.size w5 W6 := by rw [hW6]; exact (Below.refl _ _).alloc (Nat.le_refl _) _
 have P6 : Hid (PenF W6 (fun b => b = px) px []) := by rw [hW6, hpx]; exact pen_new _
 have HPX : Hid (px = w5.heap.size) := hpx
 have B6 := Lib.hid (next_below B5.out hb6)
 have X6 := Lib.hid (X5.out.on hb6)
 have Y6 := Lib.hid (Y5.out.on hb6)
 have E56 := Lib.hid hb6
 clear hb hb6
 go_upto_region 8 with fail
 rw [← hW6, ← hpx]
 clear hW6 hpx
 obtain ⟨q0, q1, q2, q3, q4, q5, q6, q7, q8, q9⟩ := box10 X6.out
 go_wp2_with fail
 have hp0 : w.heap.size ≤ px := by rw [HPX.out]; exact B5.out.size
 have hl0 : ([] ++ obBytes o).length ≤ 80000000 := by have := HLEN.out; rw [List.nil_append]; omega
 have H12 := Lib.hid (tput_any P6.out (HVF.out W6 _ B6.out fun b h => by rw [h]; exact hp0) HW.out hl0)
 clear hp0 hl0
 refine H12.out.mono ?_
 rintro e w7 ⟨rfl, F7, hp7, hs7⟩
 rw [List.nil_append] at hp7
 have hb := E56.out.trans (hs7.1.below E56.out.size fun y h => by rw [h, HPX.out]; exact Nat.le_refl _)
 have B7 := Lib.hid (next_below B5.out hb)
 have X7 := Lib.hid (X5.out.on hb)
 have Y7 := Lib.hid (Y5.out.on hb)
 have E57 := Lib.hid hb
 obtain ⟨k7, hp7, -⟩ := hp7
 have H13 := Lib.hid (Tp.pen_bytes hp7 (by have := HLEN.out; omega))
 clear H12 hb hs7 hp7 q0 q1 q2 q3 q4 q5 q6 q7 q8 q9 X6 Y6 P6 E56 HPX
 go_wp2_with fail
 refine H13.out.mono ?_
 rintro e w8 ⟨A8, c8, rfl, ht8, -, -, -, -, hb⟩
 have cv := Tp.conv_str ht8 c8
 have B8 := Lib.hid (next_below B7.out hb)
 have X8 := Lib.hid (X7.out.on hb)
 have Y8 := Lib.hid (Y7.out.on hb)
 have E78 := Lib.hid hb
 clear hb ht8 H13
 rw [← HT.out] at cv
 obtain ⟨q0, q1, q2, q3, q4, q5, q6, q7, q8, q9⟩ := box10 X8.out
 obtain ⟨r0, r1, r2, r3, r4, r5, r6, r7, r8, r9⟩ := box10 Y8.out
 go_wp2_with fail
 have B38 := Lib.hid (next_below (next_below (next_below E34.out E45.out) E57.out) E78.out)
 have CC : Hid (∀ W, Below w8.heap.size w8 W → ObjAt W No (.agg #[.int .i64 o.kind, .slice dl o.lab.length el, .slice dk o.kids.length ek, .int .i64 o.next, .slice db o.bytes.length eb, .slice Ao jo so, .int .i64 o.cats, .slice Ae je se, .int .i64 o.ring, .slice dm o.maps.length em]) o) := fun W hW => HC3.out.read (next_below B38.out hW)
 obtain ⟨ok, hok⟩ : ∃ b, b = decide (ObOk o) := ⟨_, rfl⟩
 have D14 : Hid (∀ d os, Calls Tryz.prog 14 #[.agg #[.int .i64 zk, .slice AL nL cL, .slice Ak nk ck, .int .i64 nx, .slice AB nB cB, .slice AO nO cO, .int .i64 ca, .slice AN nN cN, .int .i64 ri, .slice AM nM cM]] (Sort.grow (redrawn w8 d) os) fun e w' => e = .returned (.bool ok) ∧ ∃ r : Regrown, w' = Sort.grow (redrawn w8 r.d) r.os) := quietB fun W hW => by
   rw [hok]; exact right_any9 (HE.out W (next_below B8.out hW)) (HV.out W (next_below B8.out hW)) HW.out
 have D15 : Hid (∀ d os, Calls Tryz.prog 15 #[.agg #[.int .i64 zk, .slice AL nL cL, .slice Ak nk ck, .int .i64 nx, .slice AB nB cB, .slice AO nO cO, .int .i64 ca, .slice AN nN cN, .int .i64 ri, .slice AM nM cM]] (Sort.grow (redrawn w8 d) os) fun e w' => e = .returned (.bool ok) ∧ ∃ r : Regrown, w' = Sort.grow (redrawn w8 r.d) r.os) := quietB fun W hW => by
   rw [hok]; exact refRight9_any (HV.out W (next_below B8.out hW)) HW.out
 have D16 : Hid (ok = true → ∀ d os, Calls Tryz.prog 16 #[.agg #[.int .i64 zk, .slice AL nL cL, .slice Ak nk ck, .int .i64 nx, .slice AB nB cB, .slice AO nO cO, .int .i64 ca, .slice AN nN cN, .int .i64 ri, .slice AM nM cM]] (Sort.grow (redrawn w8 d) os) fun e w' => e = .returned (.int .i64 (uses o)) ∧ ∃ r : Regrown, w' = Sort.grow (redrawn w8 r.d) r.os) := fun h => quietB fun W hW => by
   rw [hok] at h; exact uses_any (HV.out W (next_below B8.out hW)) HW.out (of_decide_eq_true h).kids
 have D17 : Hid (ok = true → ∀ d os, Calls Tryz.prog 17 #[.agg #[.int .i64 zk, .slice AL nL cL, .slice Ak nk ck, .int .i64 nx, .slice AB nB cB, .slice AO nO cO, .int .i64 ca, .slice AN nN cN, .int .i64 ri, .slice AM nM cM]] (Sort.grow (redrawn w8 d) os) fun e w' => e = .returned (.int .i64 (uses o)) ∧ ∃ r : Regrown, w' = Sort.grow (redrawn w8 r.d) r.os) := fun h => quietB fun W hW => by
   rw [hok] at h; exact refUses_any (HV.out W (next_below B8.out hW)) HW.out (of_decide_eq_true h).kids
 have D18 : Hid (∀ d os, Calls Tryz.prog 18 #[.agg #[.int .i64 o.kind, .slice dl o.lab.length el, .slice dk o.kids.length ek, .int .i64 o.next, .slice db o.bytes.length eb, .slice Ao jo so, .int .i64 o.cats, .slice Ae je se, .int .i64 o.ring, .slice dm o.maps.length em], .agg #[.int .i64 zk, .slice AL nL cL, .slice Ak nk ck, .int .i64 nx, .slice AB nB cB, .slice AO nO cO, .int .i64 ca, .slice AN nN cN, .int .i64 ri, .slice AM nM cM]] (Sort.grow (redrawn w8 d) os) fun e w' => e = .returned (.bool true) ∧ ∃ r : Regrown, w' = Sort.grow (redrawn w8 r.d) r.os) := quietB fun W hW => by
   have := refSame9_any (CC.out W hW) (HV.out W (next_below B8.out hW)) HW.out HW.out (by have := HLEN.out; omega) (by have := HLEN.out; omega)
   rwa [decide_eq_true (show SameO o o from ⟨rfl, rfl⟩)] at this
 obtain ⟨us, hus⟩ : ∃ u, u = uses o := ⟨_, rfl⟩
 rw [← hus] at D16 D17
 clear hus hok
 have g0 := cell_regrown q0
 have g1 := cell_regrown q1
 have g2 := cell_regrown q2
 have g3 := cell_regrown q3
 have g4 := cell_regrown q4
 have g5 := cell_regrown q5
 have g6 := cell_regrown q6
 have g7 := cell_regrown q7
 have g8 := cell_regrown q8
 have g9 := cell_regrown q9
 have f0 := cell_regrown r0
 have f1 := cell_regrown r1
 have f2 := cell_regrown r2
 have f3 := cell_regrown r3
 have f4 := cell_regrown r4
 have f5 := cell_regrown r5
 have f6 := cell_regrown r6
 have f7 := cell_regrown r7
 have f8 := cell_regrown r8
 have f9 := cell_regrown r9
 go_cut [48] from 27 to 47 (fun s48 wx => s48 = .bool false ∧ Below w8.heap.size w8 wx)
 case first =>
   cases ok with
   | false =>
    refine wp_region_quiet_below (by kernel_rfl) (by kernel_rfl) ?_
    repeat (go_big_quiet_step (first | with_reducible exact D14.out _ _ | with_reducible exact D15.out _ _ | with_reducible exact D18.out _ _))
    refine wpQuiet_nil ?_
    rintro _ ⟨⟨dq, osq⟩, rfl⟩
    have hbq := below_regrown w8 dq osq
    go_wp2_with fail
    go_meet
    case rel => exact ⟨rfl, hbq⟩
   | true =>
    have E16 := Lib.hid (D16.out rfl)
    have E17 := Lib.hid (D17.out rfl)
    refine wp_region_quiet_below (by kernel_rfl) (by kernel_rfl) ?_
    repeat (go_big_quiet_step (first | with_reducible exact D14.out _ _ | with_reducible exact D15.out _ _ | with_reducible exact D18.out _ _ | with_reducible exact E16.out _ _ | with_reducible exact E17.out _ _))
    refine wpQuiet_nil ?_
    rintro _ ⟨⟨dq, osq⟩, rfl⟩
    have hbq := below_regrown w8 dq osq
    go_wp2_with fail
    go_meet
    case rel => exact ⟨rfl, hbq⟩
 case rest =>
   obtain ⟨rfl, hb⟩ := hcut
   clear q0 q1 q2 q3 q4 q5 q6 q7 q8 q9 r0 r1 r2 r3 r4 r5 r6 r7 r8 r9 g0 g1 g2 g3 g4 g5 g6 g7 g8 g9 f0 f1 f2 f3 f4 f5 f6 f7 f8 f9 D14 D15 D16 D17 D18 CC cv
   have E39 := Lib.hid (next_below B38.out hb)
   have B9 := Lib.hid (next_below B8.out hb)
   have X9 := Lib.hid (X8.out.on hb)
   have Y9 := Lib.hid (Y8.out.on hb)
   have OB9 := Lib.hid (own_on OB.out E39.out)
   have OL9 := Lib.hid (own_on OL.out E39.out)
   have OM9 := Lib.hid (own_on OM.out E39.out)
   have GB : Hid (∀ y, (Value.slice db o.bytes.length eb).ownBlock = some y → b1 ≤ y ∧ y < cx) := fun y hy => by rw [HCX.out]; exact OB.out.lt y hy
   clear hb
   obtain ⟨q0, q1, q2, q3, q4, q5, q6, q7, q8, q9⟩ := box10 Y9.out
   obtain ⟨nb, hnb⟩ : ∃ n, n = o.bytes.length := ⟨_, rfl⟩
   rw [← hnb] at OB9 GB HBS Y9 q4 ⊢
   have HNE2 : Hid (nb = o.bytes.length) := hnb
   have HNB : nb ≤ 1048576 := by rw [hnb]; exact HW.out.bytes.1
   clear hnb
   go_wp2_with fail
   clear q0 q1 q2 q3 q4 q5 q6 q7 q8 q9
   go_loopg [52] nb (fun k i wr => RtB wc b1 (.slice db nb eb) nb k i wr)
   case atStart => exact ⟨0, by simp, rfl, ⟨_, OB9.out, by rw [Tp.cellsOf_length]; exact HNE2.out.symm, fun j u hu => by
    obtain ⟨x, hx⟩ := cellsOf_get hu
    exact ⟨_, hx⟩⟩, Tp.Kp.refl _ _⟩
   case round =>
    obtain ⟨m, hmk, hi, ⟨xs, hrow, hxl, hxs⟩, hkp⟩ := hrel
    subst hi
    have hy := Y9.out.kp hkp (fun e => by have := (GB.out _ e).2; omega)
    cases gk with
    | zero =>
     have hmn : ¬ (m : Int) < nb := by omega
     have hlo := HO.out
     have hx2 := X2.out.lt
     have hs2 := B2.out.size
     have Y10 := Lib.hid hy
     have X10 := Lib.hid (X9.out.kp hkp fun e => by have := (GB.out _ e).1; omega)
     have OL10 := Lib.hid (own_kp OL9.out hkp fun y hy e => by have := (GB.out _ e).1; have := HL.out y hy; omega)
     have OM10 := Lib.hid (own_kp OM9.out hkp fun y hy e => by have := HBS.out y e; have := (OM.out.lt y hy).1; omega)
     have B10 := Lib.hid (B9.out.trans (hkp.below B9.out.size fun y e => by have := (GB.out _ e).1; omega))
     have K10 := Lib.hid hkp
     clear hmk hrow hxl hxs hkp hy
     obtain ⟨q0, q1, q2, q3, q4, q5, q6, q7, q8, q9⟩ := box10 Y10.out
     obtain ⟨nl, hnl⟩ : ∃ n, n = o.lab.length := ⟨_, rfl⟩
     have GL : Hid (∀ y, (Value.slice dl o.lab.length el).ownBlock = some y → w2.heap.size ≤ y ∧ y < cx) := fun y hy => by rw [HCX.out]; exact OL.out.lt y hy
     rw [← hnl] at OL10 GL HL Y10 q1 ⊢
     have HNL2 : Hid (nl = o.lab.length) := hnl
     have HNL : nl ≤ 1048576 := by rw [hnl]; exact HW.out.lab.1
     clear hnl hlo hx2 hs2
     go_wp2_with fail
     clear q0 q1 q2 q3 q4 q5 q6 q7 q8 q9
     go_loopg [66] nl (fun k i wr' => RtL wr w2.heap.size (.slice dl nl el) nl k i wr')
     case atStart => exact ⟨0, by simp, rfl, ⟨_, OL10.out, by rw [entCells_length]; rw [HNL2.out], fun j u hu => entCells_odd hu⟩, Tp.Kp.refl _ _⟩
     case round =>
      obtain ⟨m2, hmk, hi, ⟨xs, hrow, hxl, hxs⟩, hkp⟩ := hrel
      subst hi
      have hy := Y10.out.kp hkp (fun e => by have := (GL.out _ e).2; omega)
      cases gk with
      | zero =>
        have hmn2 : ¬ (m2 : Int) < nl := by omega
        have hlo := HO.out
        have hx2 := X2.out.lt
        have Y11 := Lib.hid hy
        have X11 := Lib.hid (X10.out.kp hkp fun e => by have := (GL.out _ e).1; omega)
        have OM11 := Lib.hid (own_kp OM10.out hkp fun y hy e => by have := HL.out y e; have := (OM10.out.lt y hy).1; omega)
        have B11 := Lib.hid (B10.out.trans (hkp.below B10.out.size fun y e => by have := (GL.out _ e).1; have := B2.out.size; omega))
        have HSG11 : Hid (∀ (j : Nat) (x : Mp) (s : Value), o.maps[j]? = some x → ss[j]? = some s → wr.ownsRow b3 3 1 s x.2.1.length (Pa.zCellsOf x.2.1) ∧ ∀ y, s.ownBlock = some y → y < cx) := fun j x s hj hs => by
          have h1 := HSG.out j x s hj hs
          have h2 := own_kp (own_on h1 E39.out) K10.out fun y hy e => by have := HBS.out y e; have := (h1.lt y hy).1; omega
          exact ⟨own_kp h2 hkp fun y hy e => by have := HL.out y e; have := (h1.lt y hy).1; omega, fun y hy => by rw [HCX.out]; exact (h1.lt y hy).2⟩
        clear hmk hrow hxl hxs hkp hy
        obtain ⟨q0, q1, q2, q3, q4, q5, q6, q7, q8, q9⟩ := box10 Y11.out
        obtain ⟨nm, hnm⟩ : ∃ n, n = o.maps.length := ⟨_, rfl⟩
        have GM : Hid (∀ y, (Value.slice dm o.maps.length em).ownBlock = some y → b2 ≤ y ∧ y < cx) := fun y hy => by rw [HCX.out]; exact OM.out.lt y hy
        rw [← hnm] at OM11 GM Y11 q9 ⊢
        have HNM2 : Hid (nm = o.maps.length) := hnm
        have HNM : nm ≤ 1048576 := by rw [hnm]; exact HW.out.maps.1
        clear hnm hlo hx2
        go_wp2_with fail
        clear q0 q1 q2 q3 q4 q5 q6 q7 q8 q9
        go_loopg [82] nm (fun k i wr' => RtG wr b2 b3 cx (.slice dm nm em) o ss nm k i wr')
        case atStart => exact ⟨0, _, by simp, rfl, OM11.out, by rw [mapCells_length HSS.out, HNM2.out], fun j s _ hj hs => by
          obtain ⟨x, hx⟩ : ∃ x, o.maps[j]? = some x := ⟨_, List.getElem?_eq_getElem (by rw [← HNM2.out]; exact hj)⟩
          exact (mapCells_at hx hs).2.1, fun j x s _ hj hs => (HSG11.out j x s hj hs).1, Tp.Kp.refl _ _⟩
        case round =>
          obtain ⟨m3, xs, hmk, hi, hrow, hxl, hxs, hseg, hkp⟩ := hrel
          subst hi
          have hy := Y11.out.kp hkp (fun e => by have := e.2; omega)
          cases gk with
          | zero =>
            have hmn3 : ¬ (m3 : Int) < nm := by omega
            have hlo := HO.out
            have hx2 := X2.out.lt
            have X12 := Lib.hid (X11.out.kp hkp fun e => by have := e.1; omega)
            have B12 := Lib.hid (B11.out.trans (hkp.below B11.out.size fun y e => by have := e.1; have := B2.out.size; omega))
            clear hmk hrow hxl hxs hseg hkp hy hlo hx2
            obtain ⟨q0, q1, q2, q3, q4, q5, q6, q7, q8, q9⟩ := box10 X12.out
            go_wp2_with fail
            refine (C11.out wr B12.out).mono ?_
            rintro e w13 ⟨rfl, hb⟩
            have B13 := Lib.hid (next_below B12.out hb)
            clear hb q0 q1 q2 q3 q4 q5 q6 q7 q8 q9
            go_wp2_with fail
            go_ret
            exact ⟨rfl, B13.out⟩
          | succ j =>
            have hm : m3 < nm := by omega
            have hmlt : (m3 : Int) < nm := by omega
            have hvm : ∃ g, dm = some ⟨g, 0, none⟩ := by
              rcases hrow.2 with ⟨h, h0⟩ | ⟨g, cap, cur, h, _⟩
              · omega
              · injection h with h _ _
                exact ⟨g, h⟩
            obtain ⟨g, rfl⟩ := hvm
            have hgc := GM.out g rfl
            have hgb : g < b3 := HMS.out g rfl
            obtain ⟨x, hx⟩ : ∃ x, o.maps[m3]? = some x := ⟨_, List.getElem?_eq_getElem (by rw [← HNM2.out]; exact hm)⟩
            obtain ⟨s0, hs0⟩ : ∃ s, ss[m3]? = some s := ⟨_, List.getElem?_eq_getElem (by rw [HSS.out, ← HNM2.out]; exact hm)⟩
            have hso := hseg m3 x s0 (Nat.le_refl _) hx hs0
            have hsc := (HSG11.out m3 x s0 hx hs0).2
            have e1 := hxs m3 s0 (Nat.le_refl _) hm hs0
            have d1 := (hrow.cellAt (m3 * 3 + 1) (by omega)).trans e1
            have fr := hrow.frozenAt (m3 * 3 + 1)
            obtain ⟨ns, hns⟩ : ∃ n, n = x.2.1.length := ⟨_, rfl⟩
            rw [← hns] at hso
            obtain ⟨As, cs, rfl⟩ : ∃ A c, s0 = .slice A ns c := by obtain ⟨A, c, h, _⟩ := slv_row hso; exact ⟨A, c, h⟩
            have HS0 := Lib.hid hs0
            have HSO := Lib.hid (own_cut0 hso)
            have HSC := Lib.hid hsc
            obtain ⟨-, -, -, -, -, -, -, -, -, q9⟩ := box10 hy
            have HMK := Lib.hid hmk
            have HROW := Lib.hid hrow
            have HXL := Lib.hid hxl
            have HXS := Lib.hid hxs
            have HSEG := Lib.hid hseg
            have HKP := Lib.hid hkp
            have HY := Lib.hid hy
            clear hmk hrow hxl hxs hseg hkp hy e1 hso hsc hs0 hx hns
            have hlo := HO.out
            have hcs := HY.out.lt
            have HSB : Hid (∀ y, (Value.slice As 0 cs).ownBlock = some y → b3 ≤ y ∧ y < cx) := fun y hy => ⟨(HSO.out.lt y hy).1, HSC.out y (by cases As <;> exact hy)⟩
            have ag : (Value.slice As 0 cs).ownBlock ≠ some cx := fun e => by have := (HSB.out _ e).2; omega
            have ak : (Value.slice As 0 cs).ownBlock ≠ some g := fun e => by have := (HSB.out _ e).1; omega
            have HAG := Lib.hid ag
            have HAK := Lib.hid ak
            have HS2 := Lib.hid (own_base HSO.out hlo.2.2)
            have hbz : b2 ≤ wr.heap.size := by omega
            obtain ⟨i0, hi0, hz0, hz1, hz2⟩ := info_parts Tryz.info3x
            clear ag ak
            have hba := ((Below.refl wr.heap.size wr).alloc (Nat.le_refl _) (Obj.cells #[Value.int IntKind.i64 9] 3)).drew
            have z9 := (hba.cell (p := ⟨cx, 9, none⟩) hcs).trans q9
            have zg := (hba.cell (p := ⟨g, m3 * 3 + 1, none⟩) (by show g < _; omega)).trans d1
            have zf := (own_on HROW.out hba).frozenAt (m3 * 3 + 1)
            have HZ := Lib.hid (And.intro z9 (And.intro zg zf))
            clear hba
            go_wp2_with fail
            have hgcx : ¬ g = cx := by omega
            refine wp_region_held_drew (S := (fun w' => w'.cell? ⟨cx, 9, none⟩ = some (.slice (some ⟨g, 0, none⟩) nm em) ∧ w'.frozen? ⟨g, m3 * 3 + 1, none⟩ = false)) (by kernel_rfl) (by (try dsimp only); exact ⟨q9, fr⟩) (fun hHeld => ?_)
            refine wpAnyH_take (i := 0) (v := ?v1) rfl (by kernel_rfl) (by kernel_rfl) (by kernel_rfl) (fun _ _ _ h => h) (Or.inl ⟨by rfl, ?hy1⟩) (by assumption) ?rest1
            case hy1 =>
              intro w hSw
              (try dsimp only at hSw)
              go_simp
              try rfl
            simp only [List.getElem_toArray, List.getElem_cons_zero, Act.put, List.setIfInBounds_toArray, List.set_cons_zero, List.set_cons_succ]
            refine wpAnyH_take (i := 1) (v := ?v2) rfl (by kernel_rfl) (by kernel_rfl) (by kernel_rfl) (fun _ _ _ h => h) (Or.inl ⟨by rfl, ?hy2⟩) (by assumption) ?rest2
            case hy2 =>
              intro w hSw
              (try dsimp only at hSw)
              go_simp
              try rfl
            simp only [List.getElem_toArray, List.getElem_cons_succ, List.getElem_cons_zero, Act.put, List.setIfInBounds_toArray, List.set_cons_zero, List.set_cons_succ]
            refine wpAnyH_take (i := 2) (v := ?v3) rfl (by kernel_rfl) (by kernel_rfl) (by kernel_rfl) (fun _ _ _ h => h) (Or.inl ⟨by rfl, ?hy3⟩) (by assumption) ?rest3
            case hy3 =>
              intro w hSw
              (try dsimp only at hSw)
              go_simp
              try rfl
            simp only [List.getElem_toArray, List.getElem_cons_succ, List.getElem_cons_zero, Act.put, List.setIfInBounds_toArray, List.set_cons_zero, List.set_cons_succ]
            refine wpAnyH_take (i := 3) (v := ?v4) rfl (by kernel_rfl) (by kernel_rfl) (by kernel_rfl) (fun _ _ _ h => h) (Or.inl ⟨by rfl, ?hy4⟩) (by assumption) ?rest4
            case hy4 =>
              intro w hSw
              (try dsimp only at hSw)
              go_simp
              try rfl
            simp only [List.getElem_toArray, List.getElem_cons_succ, List.getElem_cons_zero, Act.put, List.setIfInBounds_toArray, List.set_cons_zero, List.set_cons_succ]
            refine wpAnyH_take (i := 4) (v := ?v5) rfl (by kernel_rfl) (by kernel_rfl) (by kernel_rfl) (fun _ _ _ h => h) (Or.inl ⟨by rfl, ?hy5⟩) (by assumption) ?rest5
            case hy5 =>
              intro w hSw
              (try dsimp only at hSw)
              go_simp
              try rfl
            simp only [List.getElem_toArray, List.getElem_cons_succ, List.getElem_cons_zero, Act.put, List.setIfInBounds_toArray, List.set_cons_zero, List.set_cons_succ]
            refine wpAnyH_take (i := 5) (v := ?v6) rfl (by kernel_rfl) (by kernel_rfl) (by kernel_rfl) (fun _ _ _ h => h) (Or.inl ⟨by rfl, ?hy6⟩) (by assumption) ?rest6
            case hy6 =>
              intro w hSw
              (try dsimp only at hSw)
              go_simp
              try rfl
            simp only [List.getElem_toArray, List.getElem_cons_succ, List.getElem_cons_zero, Act.put, List.setIfInBounds_toArray, List.set_cons_zero, List.set_cons_succ]
            refine wpAnyH_take (i := 6) (v := ?v7) rfl (by kernel_rfl) (by kernel_rfl) (by kernel_rfl) (fun _ _ _ h => h) (Or.inl ⟨by rfl, ?hy7⟩) (by assumption) ?rest7
            case hy7 =>
              intro w hSw
              (try dsimp only at hSw)
              go_simp
              try rfl
            simp only [List.getElem_toArray, List.getElem_cons_succ, List.getElem_cons_zero, Act.put, List.setIfInBounds_toArray, List.set_cons_zero, List.set_cons_succ]
            refine wpAnyH_take (i := 7) (v := ?v8) rfl (by kernel_rfl) (by kernel_rfl) (by kernel_rfl) (fun _ _ _ h => h) (Or.inl ⟨by rfl, ?hy8⟩) (by assumption) ?rest8
            case hy8 =>
              intro w hSw
              (try dsimp only at hSw)
              go_simp
              try rfl
            simp only [List.getElem_toArray, List.getElem_cons_succ, List.getElem_cons_zero, Act.put, List.setIfInBounds_toArray, List.set_cons_zero, List.set_cons_succ]
            refine wpAnyH_ready (rs := [8, 10]) (by kernel_rfl) (by simp) ?_
            refine AllReadyH.cons rfl (fun K hK => ?_) (AllReadyH.cons rfl (fun K hK => ?_) AllReadyH.nil)
            · simp only [List.getElem_toArray, List.getElem_cons_succ, List.getElem_cons_zero]
              go_simp
              refine hK.out _ _ (by (try dsimp only); exact ⟨q9, fr⟩) (fun hHeld2 => ?_)
              clear hK K
              (try simp only [List.getElem_toArray, List.getElem_cons_succ, List.getElem_cons_zero, Act.put, List.setIfInBounds_toArray, List.set_cons_zero, List.set_cons_succ])
              refine wpAnyH_take (i := 9) (v := ?v9) rfl (by kernel_rfl) (by kernel_rfl) (by kernel_rfl) (fun _ _ _ h => h) (Or.inl ⟨by rfl, ?hy9⟩) (by assumption) ?rest9
              case hy9 =>
                intro w hSw
                (try dsimp only at hSw)
                go_simp
                try rfl
              simp only [List.getElem_toArray, List.getElem_cons_succ, List.getElem_cons_zero, Act.put, List.setIfInBounds_toArray, List.set_cons_zero, List.set_cons_succ]
              refine wpAnyH_ready (rs := [10]) (by kernel_rfl) (by simp) ?_
              refine AllReadyH.cons rfl (fun K hK => ?_) AllReadyH.nil
              simp only [List.getElem_toArray, List.getElem_cons_succ, List.getElem_cons_zero]
              go_simp
              refine hK.out _ _ (by (try dsimp only); exact ⟨z9, zf⟩) (fun hHeld3 => ?_)
              clear hK K
              (try simp only [List.getElem_toArray, List.getElem_cons_succ, List.getElem_cons_zero, Act.put, List.setIfInBounds_toArray, List.set_cons_zero, List.set_cons_succ])
              refine wpAnyH_ready (rs := [11]) (by kernel_rfl) (by simp) ?_
              refine AllReadyH.cons rfl (fun K hK => ?_) AllReadyH.nil
              simp only [List.getElem_toArray, List.getElem_cons_succ, List.getElem_cons_zero]
              rw [if_pos (by rfl)]
              refine wp_append_lies _ (.tmp 94) (.tmp 95) 43 rfl b2 3 i0 _ 1 8 Tryz.underlying43 hi0 hz0 hz1 hz2 rfl (by omega) (.slice As 0 cs) 0 [] rfl ((own_on HS2.out ((Below.refl _ _).alloc (Nat.le_refl _) _)).drew) ⟨wr.heap.size, 0, none⟩ 1 1 [.int .i64 9] rfl rfl (World.news_of_block (cs := #[.int .i64 9]) (t := 3) (fr := (0, 0)) (heap_alloc_new wr _)) (by simp [Value.oneCell']) (by omega) (by decide) (by omega) (by simp; omega) (wr.heap.size + 1) (by simp) ?_
              intro gg cap w1 hown1 hgrow hat hlt
              have y9 := (hgrow.cell_far (a := ⟨cx, 9, none⟩) (by simp; omega) (Ne.symm HAG.out)).trans z9
              have yg := (hgrow.cell_far (a := ⟨g, m3 * 3 + 1, none⟩) (by simp; omega) (Ne.symm HAK.out)).trans zg
              have yf := (hgrow.frozen_far (a := ⟨g, m3 * 3 + 1, none⟩) (by simp; omega) (Ne.symm HAK.out)).trans zf
              have hst := fun u => show (w1.setCell ⟨g, m3 * 3 + 1, none⟩ u).cell? ⟨cx, 9, none⟩ = some (.slice (some ⟨g, 0, none⟩) nm em) ∧ (w1.setCell ⟨g, m3 * 3 + 1, none⟩ u).frozen? ⟨g, m3 * 3 + 1, none⟩ = false from ⟨((Tp.Kp.refl (fun y => y = g) w1).setCell (p := ⟨g, m3 * 3 + 1, none⟩) (fun _ => rfl) u).cell (p := ⟨cx, 9, none⟩) y9 (fun e => hgcx e.symm), by simpa using yf⟩
              refine hK.out _ _ (by (try dsimp only); exact ⟨y9, yf⟩) (fun hHeld5 => ?_)
              clear hK K
              simp only [Act.put, List.setIfInBounds_toArray, List.set_cons_zero, List.set_cons_succ]
              refine wpAnyH_take (i := 12) (v := ?v10) rfl (by kernel_rfl) (by kernel_rfl) (by kernel_rfl) (fun _ _ _ h => h) (Or.inl ⟨by rfl, ?hy10⟩) (by assumption) ?rest10
              case hy10 =>
                intro w hSw
                (try dsimp only at hSw)
                go_simp
                try rfl
              simp only [List.getElem_toArray, List.getElem_cons_succ, List.getElem_cons_zero, Act.put, List.setIfInBounds_toArray, List.set_cons_zero, List.set_cons_succ]
              refine wpAnyH_take (i := 13) (v := ?v11) rfl (by kernel_rfl) (by kernel_rfl) (by kernel_rfl) (fun _ _ _ h => h) (Or.inl ⟨by rfl, ?hy11⟩) (by assumption) ?rest11
              case hy11 =>
                intro w hSw
                (try dsimp only at hSw)
                go_simp
                try rfl
              simp only [List.getElem_toArray, List.getElem_cons_succ, List.getElem_cons_zero, Act.put, List.setIfInBounds_toArray, List.set_cons_zero, List.set_cons_succ]
              refine wpAnyH_ready (rs := [14]) (by kernel_rfl) (by simp) ?_
              refine AllReadyH.cons rfl (fun K hK => ?_) AllReadyH.nil
              simp only [List.getElem_toArray, List.getElem_cons_succ, List.getElem_cons_zero]
              go_simp
              refine hK.out _ _ (by (try dsimp only); exact hst _) (fun hHeld6 => ?_)
              clear hK K
              (try simp only [List.getElem_toArray, List.getElem_cons_succ, List.getElem_cons_zero, Act.put, List.setIfInBounds_toArray, List.set_cons_zero, List.set_cons_succ])
              refine wpAnyH_done (by kernel_rfl) ?_ _
              have K1 : Tp.Kp (fun y => (Value.slice As 0 cs).ownBlock = some y) wr w1 := (((Tp.Kp.refl _ wr).alloc _).drew).grown hgrow (fun k hk _ => hk)
              have HK1 := Lib.hid K1
              have OM1 := Lib.hid (own_kp HROW.out K1 fun y hy e => by
                have h1 := (HSB.out y e).1
                have h2 : y = g := by simp [Value.ownBlock] at hy; exact hy.symm
                omega)
              clear hown1 hgrow hat hlt K1
              go_wp2_with fail
              go_roundg j
              case measure => omega
              case rel =>
                have K2 := (HK1.out.more (T := fun y => y = g ∨ (Value.slice As 0 cs).ownBlock = some y) (fun _ _ h => .inr h)).setCell (p := ⟨g, m3 * 3 + 1, none⟩) (fun _ => .inl rfl) (.slice (some ⟨gg, 0, none⟩) 1 cap)
                refine ⟨m3 + 1, xs.set (m3 * 3 + 1) _, by have := HMK.out; omega, by go_num, (World.ownsRow.stored OM1.out (m3 * 3 + 1) _).1, by rw [List.length_set]; exact HXL.out, fun j s hj hjn hs => ?_, fun j x s hj hx hs => ?_, HKP.out.andThen K2 fun y _ h => ?_⟩
                · rw [List.getElem?_set_ne (by omega)]
                  exact HXS.out j s (by omega) hjn hs
                · have h1 := HSEG.out j x s (by omega) hx hs
                  refine own_kp h1 K2 fun y hy e => ?_
                  rcases e with e | e
                  · have := (h1.lt y hy).1
                    omega
                  · exact HNE.out m3 j _ s y (by omega) HS0.out hs (by cases As <;> exact e) hy
                · rcases h with h | h
                  · have := GM.out g rfl
                    rw [h]; exact this
                  · have := HSB.out y h
                    omega
            · simp only [List.getElem_toArray, List.getElem_cons_succ, List.getElem_cons_zero]
              go_simp
              refine hK.out _ _ (by (try dsimp only); exact ⟨z9, zf⟩) (fun hHeld2 => ?_)
              clear hK K
              (try simp only [List.getElem_toArray, List.getElem_cons_succ, List.getElem_cons_zero, Act.put, List.setIfInBounds_toArray, List.set_cons_zero, List.set_cons_succ])
              refine wpAnyH_ready (rs := [8]) (by kernel_rfl) (by simp) ?_
              refine AllReadyH.cons rfl (fun K hK => ?_) AllReadyH.nil
              simp only [List.getElem_toArray, List.getElem_cons_succ, List.getElem_cons_zero]
              go_simp
              refine hK.out _ _ (by (try dsimp only); exact ⟨z9, zf⟩) (fun hHeld3 => ?_)
              clear hK K
              (try simp only [List.getElem_toArray, List.getElem_cons_succ, List.getElem_cons_zero, Act.put, List.setIfInBounds_toArray, List.set_cons_zero, List.set_cons_succ])
              refine wpAnyH_take (i := 9) (v := ?v12) rfl (by kernel_rfl) (by kernel_rfl) (by kernel_rfl) (fun _ _ _ h => h) (Or.inl ⟨by rfl, ?hy12⟩) (by assumption) ?rest12
              case hy12 =>
                intro w hSw
                (try dsimp only at hSw)
                go_simp
                try rfl
              simp only [List.getElem_toArray, List.getElem_cons_succ, List.getElem_cons_zero, Act.put, List.setIfInBounds_toArray, List.set_cons_zero, List.set_cons_succ]
              refine wpAnyH_ready (rs := [11]) (by kernel_rfl) (by simp) ?_
              refine AllReadyH.cons rfl (fun K hK => ?_) AllReadyH.nil
              simp only [List.getElem_toArray, List.getElem_cons_succ, List.getElem_cons_zero]
              rw [if_pos (by rfl)]
              refine wp_append_lies _ (.tmp 94) (.tmp 95) 43 rfl b2 3 i0 _ 1 8 Tryz.underlying43 hi0 hz0 hz1 hz2 rfl (by omega) (.slice As 0 cs) 0 [] rfl ((own_on HS2.out ((Below.refl _ _).alloc (Nat.le_refl _) _)).drew) ⟨wr.heap.size, 0, none⟩ 1 1 [.int .i64 9] rfl rfl (World.news_of_block (cs := #[.int .i64 9]) (t := 3) (fr := (0, 0)) (heap_alloc_new wr _)) (by simp [Value.oneCell']) (by omega) (by decide) (by omega) (by simp; omega) (wr.heap.size + 1) (by simp) ?_
              intro gg cap w1 hown1 hgrow hat hlt
              have y9 := (hgrow.cell_far (a := ⟨cx, 9, none⟩) (by simp; omega) (Ne.symm HAG.out)).trans z9
              have yg := (hgrow.cell_far (a := ⟨g, m3 * 3 + 1, none⟩) (by simp; omega) (Ne.symm HAK.out)).trans zg
              have yf := (hgrow.frozen_far (a := ⟨g, m3 * 3 + 1, none⟩) (by simp; omega) (Ne.symm HAK.out)).trans zf
              have hst := fun u => show (w1.setCell ⟨g, m3 * 3 + 1, none⟩ u).cell? ⟨cx, 9, none⟩ = some (.slice (some ⟨g, 0, none⟩) nm em) ∧ (w1.setCell ⟨g, m3 * 3 + 1, none⟩ u).frozen? ⟨g, m3 * 3 + 1, none⟩ = false from ⟨((Tp.Kp.refl (fun y => y = g) w1).setCell (p := ⟨g, m3 * 3 + 1, none⟩) (fun _ => rfl) u).cell (p := ⟨cx, 9, none⟩) y9 (fun e => hgcx e.symm), by simpa using yf⟩
              refine hK.out _ _ (by (try dsimp only); exact ⟨y9, yf⟩) (fun hHeld5 => ?_)
              clear hK K
              simp only [Act.put, List.setIfInBounds_toArray, List.set_cons_zero, List.set_cons_succ]
              refine wpAnyH_take (i := 12) (v := ?v13) rfl (by kernel_rfl) (by kernel_rfl) (by kernel_rfl) (fun _ _ _ h => h) (Or.inl ⟨by rfl, ?hy13⟩) (by assumption) ?rest13
              case hy13 =>
                intro w hSw
                (try dsimp only at hSw)
                go_simp
                try rfl
              simp only [List.getElem_toArray, List.getElem_cons_succ, List.getElem_cons_zero, Act.put, List.setIfInBounds_toArray, List.set_cons_zero, List.set_cons_succ]
              refine wpAnyH_take (i := 13) (v := ?v14) rfl (by kernel_rfl) (by kernel_rfl) (by kernel_rfl) (fun _ _ _ h => h) (Or.inl ⟨by rfl, ?hy14⟩) (by assumption) ?rest14
              case hy14 =>
                intro w hSw
                (try dsimp only at hSw)
                go_simp
                try rfl
              simp only [List.getElem_toArray, List.getElem_cons_succ, List.getElem_cons_zero, Act.put, List.setIfInBounds_toArray, List.set_cons_zero, List.set_cons_succ]
              refine wpAnyH_ready (rs := [14]) (by kernel_rfl) (by simp) ?_
              refine AllReadyH.cons rfl (fun K hK => ?_) AllReadyH.nil
              simp only [List.getElem_toArray, List.getElem_cons_succ, List.getElem_cons_zero]
              go_simp
              refine hK.out _ _ (by (try dsimp only); exact hst _) (fun hHeld6 => ?_)
              clear hK K
              (try simp only [List.getElem_toArray, List.getElem_cons_succ, List.getElem_cons_zero, Act.put, List.setIfInBounds_toArray, List.set_cons_zero, List.set_cons_succ])
              refine wpAnyH_done (by kernel_rfl) ?_ _
              have K1 : Tp.Kp (fun y => (Value.slice As 0 cs).ownBlock = some y) wr w1 := (((Tp.Kp.refl _ wr).alloc _).drew).grown hgrow (fun k hk _ => hk)
              have HK1 := Lib.hid K1
              have OM1 := Lib.hid (own_kp HROW.out K1 fun y hy e => by
                have h1 := (HSB.out y e).1
                have h2 : y = g := by simp [Value.ownBlock] at hy; exact hy.symm
                omega)
              clear hown1 hgrow hat hlt K1
              go_wp2_with fail
              go_roundg j
              case measure => omega
              case rel =>
                have K2 := (HK1.out.more (T := fun y => y = g ∨ (Value.slice As 0 cs).ownBlock = some y) (fun _ _ h => .inr h)).setCell (p := ⟨g, m3 * 3 + 1, none⟩) (fun _ => .inl rfl) (.slice (some ⟨gg, 0, none⟩) 1 cap)
                refine ⟨m3 + 1, xs.set (m3 * 3 + 1) _, by have := HMK.out; omega, by go_num, (World.ownsRow.stored OM1.out (m3 * 3 + 1) _).1, by rw [List.length_set]; exact HXL.out, fun j s hj hjn hs => ?_, fun j x s hj hx hs => ?_, HKP.out.andThen K2 fun y _ h => ?_⟩
                · rw [List.getElem?_set_ne (by omega)]
                  exact HXS.out j s (by omega) hjn hs
                · have h1 := HSEG.out j x s (by omega) hx hs
                  refine own_kp h1 K2 fun y hy e => ?_
                  rcases e with e | e
                  · have := (h1.lt y hy).1
                    omega
                  · exact HNE.out m3 j _ s y (by omega) HS0.out hs (by cases As <;> exact e) hy
                · rcases h with h | h
                  · have := GM.out g rfl
                    rw [h]; exact this
                  · have := HSB.out y h
                    omega
      | succ j =>
        have hm : m2 < nl := by omega
        have hmlt : (m2 : Int) < nl := by omega
        have hvm : ∃ g, dl = some ⟨g, 0, none⟩ := by
          rcases hrow.2 with ⟨h, h0⟩ | ⟨g, cap, cur, h, _⟩
          · omega
          · injection h with h _ _
            exact ⟨g, h⟩
        obtain ⟨g, rfl⟩ := hvm
        obtain ⟨u, hu⟩ : ∃ u, xs[m2 * 2 + 1]? = some u := ⟨_, List.getElem?_eq_getElem (by omega)⟩
        obtain ⟨z, rfl⟩ := hxs m2 u hu
        have d1 := (hrow.cellAt (m2 * 2 + 1) (by omega)).trans hu
        have fr := hrow.frozenAt (m2 * 2 + 1)
        obtain ⟨-, q1, -, -, -, -, -, -, -, -⟩ := box10 hy
        have HMK := Lib.hid hmk
        have HROW := Lib.hid hrow
        have HXL := Lib.hid hxl
        have HXS := Lib.hid hxs
        have HKP := Lib.hid hkp
        clear hmk hrow hxl hxs hkp hy hu
        go_wp2_with fail
        go_roundg j
        case measure => omega
        case rel =>
          refine ⟨m2 + 1, by have := HMK.out; omega, by go_num, ⟨xs.set (m2 * 2 + 1) _, (World.ownsRow.stored HROW.out (m2 * 2 + 1) _).1, by rw [List.length_set]; exact HXL.out, fun i u hu => ?_⟩, HKP.out.andThen ((Tp.Kp.refl (fun y => y = g) _).setCell (fun _ => rfl) _) (fun y _ h => by rw [h]; rfl)⟩
          rw [List.getElem?_set] at hu
          split at hu
          · split at hu
            · injection hu with hu
              exact ⟨_, hu.symm⟩
            · cases hu
          · exact HXS.out i u hu
    | succ j =>
     have hm : m < nb := by omega
     have hmlt : (m : Int) < nb := by omega
     have hvm : ∃ g, db = some ⟨g, 0, none⟩ := by
      rcases hrow.2 with ⟨h, h0⟩ | ⟨g, cap, cur, h, _⟩
      · omega
      · injection h with h _ _
        exact ⟨g, h⟩
     obtain ⟨g, rfl⟩ := hvm
     obtain ⟨u, hu⟩ : ∃ u, xs[m]? = some u := ⟨_, List.getElem?_eq_getElem (by omega)⟩
     obtain ⟨z, rfl⟩ := hxs m u hu
     have d1 := (hrow.cellAt m (by omega)).trans hu
     have fr := hrow.frozenAt m
     obtain ⟨-, -, -, -, q4, -, -, -, -, -⟩ := box10 hy
     have HMK := Lib.hid hmk
     have HROW := Lib.hid hrow
     have HXL := Lib.hid hxl
     have HXS := Lib.hid hxs
     have HKP := Lib.hid hkp
     have HY := Lib.hid hy
     clear hmk hrow hxl hxs hkp hy hu
     go_wp2_with fail
     go_roundg j
     case measure => omega
     case rel =>
      refine ⟨m + 1, by have := HMK.out; omega, by go_num, ⟨xs.set m _, (World.ownsRow.stored HROW.out m _).1, by rw [List.length_set]; exact HXL.out, fun i u hu => ?_⟩, HKP.out.andThen ((Tp.Kp.refl (fun y => y = g) _).setCell (fun _ => rfl) _) (fun y _ h => by rw [h]; rfl)⟩
      rw [List.getElem?_set] at hu
      split at hu
      · split at hu
        · injection hu with hu
          exact ⟨_, hu.symm⟩
        · cases hu
      · exact HXS.out i u hu
end Go.Proofs.YtgcbfggoddkhnaaGreatDoor
