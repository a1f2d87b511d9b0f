/- Lemmas for the law: Xm, Xw, Xc, Xk, Xn, QJoin, QNm, QTx. -/
import Derived.Test.YtgcbfggoddkhnaaGreatDoorM06
import Derived.Test.YtgcbfggoddkhnaaGreatDoorM04
import Derived.Maps.OwnSet
import Derived.Maps.OwnOps
import Derived.Maps.RangeWalk
import Derived.Shelf.Strings.OnBuilder
import Derived.Test.YtgcbfggoddkhnaaGreatDoorProg
import Derived.Test.YtgcbfggoddkhnaaGreatDoorM02
import Derived.Lib.ItoaLen
namespace Go.Proofs.YtgcbfggoddkhnaaGreatDoor
open Go.RowKit
def Sl (w : World) (F : Nat → Prop) (A : Option Addr) (cs : List Value) : Prop :=
 0 < cs.length → ∃ b o, A = some ⟨b, o, none⟩ ∧ ¬ F b ∧ b < w.heap.size ∧ ∀ (k : Nat) (u : Value), cs[k]? = some u → w.cell? ⟨b, o + k, none⟩ = some u
theorem Sl.kp {S F F' : Nat → Prop} {w w' : World} {A : Option Addr} {cs : List Value} (h : Sl w F A cs) (hk : Tp.Kp S w w') (hS : ∀ b, b < w.heap.size → S b → F b) (hF : ∀ b, b < w.heap.size → F' b → F b) : Sl w' F' A cs := fun hp => by
 obtain ⟨b, o, hA, hb, hlt, hc⟩ := h hp
 exact ⟨b, o, hA, fun h => hb (hF b hlt h), Nat.lt_of_lt_of_le hlt hk.size, fun k u hu => hk.cell (hc k u hu) (fun h => hb (hS b hlt h))⟩
theorem Sl.on {F F' : Nat → Prop} {w w' : World} {A : Option Addr} {cs : List Value} (h : Sl w F A cs) (hb : Below w.heap.size w w') (hF : ∀ b, b < w.heap.size → F' b → F b) : Sl w' F' A cs :=
 h.kp (Tp.Kp.of_below hb fun _ => False) (fun _ _ h => h.elim) hF
def SlV (w : World) (F : Nat → Prop) (v : Value) (n : Nat) (cs : List Value) : Prop := ∃ A c, v = .slice A n c ∧ (A = none → c = 0) ∧ n ≤ c ∧ Sl w F A cs
theorem SlV.kp {S F F' : Nat → Prop} {w w' : World} {v : Value} {n : Nat} {cs : List Value} (h : SlV w F v n cs) (hk : Tp.Kp S w w') (hS : ∀ b, b < w.heap.size → S b → F b) (hF : ∀ b, b < w.heap.size → F' b → F b) : SlV w' F' v n cs := by
 obtain ⟨A, c, h1, h2, h3, h4⟩ := h
 exact ⟨A, c, h1, h2, h3, h4.kp hk hS hF⟩
theorem SlV.on {F F' : Nat → Prop} {w w' : World} {v : Value} {n : Nat} {cs : List Value} (h : SlV w F v n cs) (hb : Below w.heap.size w w') (hF : ∀ b, b < w.heap.size → F' b → F b) : SlV w' F' v n cs :=
 h.kp (Tp.Kp.of_below hb fun _ => False) (fun _ _ h => h.elim) hF
theorem SlV.nil (w : World) (F : Nat → Prop) : SlV w F (.slice none 0 0) 0 [] := ⟨none, 0, rfl, fun _ => rfl, Nat.le_refl _, fun h => absurd h (by simp)⟩
theorem slv_row {w : World} {base : Nat} {e : TypeId} {size : Nat} {v : Value} {n : Nat} {xs : List Value} (h : w.ownsRow base e size v n xs) : SlV w (fun b => b < base) v n xs := by
 rcases h.2 with ⟨rfl, he⟩ | ⟨g, cap, cur, rfl, hb, hh, hle, _⟩
 · subst he
   have : xs = [] := List.eq_nil_of_length_eq_zero (by have := h.1; omega)
   subst this
   exact SlV.nil _ _
 · refine ⟨_, cap, rfl, (fun h => by cases h), hle, fun _ => ⟨g, 0, rfl, by omega, (h.lt g rfl).2, fun k u hu => ?_⟩⟩
   have := h.cells (g := g) rfl k u hu
   rwa [Go.WideShapes.add_plain] at this
def kidCells : List Kd → List Value
 | [] => []
 | k :: r => .int .i64 k.1 :: .int .i64 k.2.1 :: .int .i64 k.2.2 :: kidCells r
theorem kidCells_append (a b : List Kd) : kidCells (a ++ b) = kidCells a ++ kidCells b := by
 induction a with
 | nil => rfl
 | cons x r ih => simp [kidCells, ih]
theorem kidCells_length (l : List Kd) : (kidCells l).length = l.length * 3 := by
 induction l with
 | nil => rfl
 | cons x r ih => simp [kidCells, ih]; omega
theorem kidCells_at {l : List Kd} {k : Nat} {x : Kd} (h : l[k]? = some x) : (kidCells l)[k * 3]? = some (.int .i64 x.1) ∧ (kidCells l)[k * 3 + 1]? = some (.int .i64 x.2.1) ∧ (kidCells l)[k * 3 + 2]? = some (.int .i64 x.2.2) := by
 induction l generalizing k with
 | nil => simp at h
 | cons y r ih =>
  cases k with
  | zero => simp at h; subst h; simp [kidCells]
  | succ k =>
   have := ih (k := k) (by simpa using h)
   rw [show (k + 1) * 3 = k * 3 + 1 + 1 + 1 by omega]
   simpa [kidCells] using this
theorem kidCells_one (l : List Kd) : ∀ u ∈ kidCells l, u.oneCell' = true := by
 induction l with
 | nil => intro u hu; simp [kidCells] at hu
 | cons y r ih =>
  intro u hu
  simp only [kidCells, List.mem_cons] at hu
  rcases hu with rfl | rfl | rfl | hu
  · rfl
  · rfl
  · rfl
  · exact ih u hu
def MapsV (w : World) (F : Nat → Prop) (v : Value) (ms : List Mp) : Prop :=
 ∃ A c, v = .slice A ms.length c ∧ (A = none → c = 0) ∧ ms.length ≤ c ∧ (0 < ms.length → ∃ b o, A = some ⟨b, o, none⟩ ∧ ¬ F b ∧ b < w.heap.size ∧ ∀ (k : Nat) (m : Mp), ms[k]? = some m →
  w.cell? ⟨b, o + k * 3, none⟩ = some (.int .i64 m.1) ∧ (∃ s, w.cell? ⟨b, o + k * 3 + 1, none⟩ = some s ∧ SlV w F s m.2.1.length (Pa.zCellsOf m.2.1)) ∧ w.cell? ⟨b, o + k * 3 + 2, none⟩ = some (.bool m.2.2))
theorem MapsV.kp {S F F' : Nat → Prop} {w w' : World} {v : Value} {ms : List Mp} (h : MapsV w F v ms) (hk : Tp.Kp S w w') (hS : ∀ b, b < w.heap.size → S b → F b) (hF : ∀ b, b < w.heap.size → F' b → F b) : MapsV w' F' v ms := by
 obtain ⟨A, c, h1, h2, h3, h4⟩ := h
 refine ⟨A, c, h1, h2, h3, fun hp => ?_⟩
 obtain ⟨b, o, hA, hb, hlt, hc⟩ := h4 hp
 refine ⟨b, o, hA, fun h => hb (hF b hlt h), Nat.lt_of_lt_of_le hlt hk.size, fun k m hm => ?_⟩
 obtain ⟨c1, ⟨s, c2, hs⟩, c3⟩ := hc k m hm
 have hn : ¬ S b := fun h => hb (hS b hlt h)
 exact ⟨hk.cell c1 hn, ⟨s, hk.cell c2 hn, hs.kp hk hS hF⟩, hk.cell c3 hn⟩
theorem MapsV.on {F F' : Nat → Prop} {w w' : World} {v : Value} {ms : List Mp} (h : MapsV w F v ms) (hb : Below w.heap.size w w') (hF : ∀ b, b < w.heap.size → F' b → F b) : MapsV w' F' v ms :=
 h.kp (Tp.Kp.of_below hb fun _ => False) (fun _ _ h => h.elim) hF
theorem MapsV.nil (w : World) (F : Nat → Prop) : MapsV w F (.slice none 0 0) [] := ⟨none, 0, rfl, fun _ => rfl, Nat.le_refl _, fun h => absurd h (by simp)⟩
def ObjK (w : World) (F : Nat → Prop) (v vk : Value) (o : Ob) : Prop :=
 ∃ vl vb vo ve vm, v = .agg #[.int .i64 o.kind, vl, vk, .int .i64 o.next, vb, vo, .int .i64 o.cats, ve, .int .i64 o.ring, vm] ∧ SlV w F vl o.lab.length (entCells o.lab) ∧ SlV w F vb o.bytes.length (Tp.cellsOf o.bytes) ∧
  SlV w F vo o.own.length (strCellsOf o.own) ∧ SlV w F ve o.entry.length (entCells o.entry) ∧ MapsV w F vm o.maps
theorem ObjK.kp {S F F' : Nat → Prop} {w w' : World} {v vk : Value} {o : Ob} (h : ObjK w F v vk o) (hk : Tp.Kp S w w') (hS : ∀ b, b < w.heap.size → S b → F b) (hF : ∀ b, b < w.heap.size → F' b → F b) : ObjK w' F' v vk o := by
 obtain ⟨vl, vb, vo, ve, vm, h1, h2, h3, h4, h5, h6⟩ := h
 exact ⟨vl, vb, vo, ve, vm, h1, h2.kp hk hS hF, h3.kp hk hS hF, h4.kp hk hS hF, h5.kp hk hS hF, h6.kp hk hS hF⟩
theorem ObjK.on {F F' : Nat → Prop} {w w' : World} {v vk : Value} {o : Ob} (h : ObjK w F v vk o) (hb : Below w.heap.size w w') (hF : ∀ b, b < w.heap.size → F' b → F b) : ObjK w' F' v vk o :=
 h.kp (Tp.Kp.of_below hb fun _ => False) (fun _ _ h => h.elim) hF
def ObjAt (w : World) (F : Nat → Prop) (v : Value) (o : Ob) : Prop := ∃ vk, ObjK w F v vk o ∧ SlV w F vk o.kids.length (kidCells o.kids)
theorem ObjAt.kp {S F F' : Nat → Prop} {w w' : World} {v : Value} {o : Ob} (h : ObjAt w F v o) (hk : Tp.Kp S w w') (hS : ∀ b, b < w.heap.size → S b → F b) (hF : ∀ b, b < w.heap.size → F' b → F b) : ObjAt w' F' v o := by
 obtain ⟨vk, h1, h2⟩ := h
 exact ⟨vk, h1.kp hk hS hF, h2.kp hk hS hF⟩
theorem ObjAt.on {F F' : Nat → Prop} {w w' : World} {v : Value} {o : Ob} (h : ObjAt w F v o) (hb : Below w.heap.size w w') (hF : ∀ b, b < w.heap.size → F' b → F b) : ObjAt w' F' v o :=
 h.kp (Tp.Kp.of_below hb fun _ => False) (fun _ _ h => h.elim) hF
abbrev No : Nat → Prop := fun _ => False
theorem ObjAt.read {F : Nat → Prop} {w w' : World} {v : Value} {o : Ob} (h : ObjAt w F v o) (hb : Below w.heap.size w w') : ObjAt w' No v o := h.on hb fun _ _ h => h.elim
def W64 (z : Int) : Prop := -9223372036854775808 ≤ z ∧ z ≤ 9223372036854775807
structure WideO (o : Ob) : Prop where
 kind : W64 o.kind
 next : W64 o.next
 cats : W64 o.cats
 ring : W64 o.ring
 lab : o.lab.length ≤ 1048576 ∧ ∀ e ∈ o.lab, e.1.length ≤ 1048576 ∧ W64 e.2
 kids : o.kids.length ≤ 1048576 ∧ ∀ k ∈ o.kids, W64 k.1 ∧ W64 k.2.1 ∧ W64 k.2.2
 bytes : o.bytes.length ≤ 1048576 ∧ Tp.Sml o.bytes
 own : o.own.length ≤ 1048576 ∧ ∀ x ∈ o.own, x.length ≤ 1048576
 entry : o.entry.length ≤ 1048576 ∧ ∀ e ∈ o.entry, e.1.length ≤ 1048576 ∧ W64 e.2
 maps : o.maps.length ≤ 1048576 ∧ ∀ m ∈ o.maps, W64 m.1 ∧ m.2.1.length ≤ 1048576 ∧ Pa.WideZ m.2.1
theorem Sl.ents {w : World} {F : Nat → Prop} {A : Option Addr} {l : List Ent} (h : Sl w F A (entCells l)) : Ents w w.heap.size A l := fun hp => by
 obtain ⟨b, o, hA, _, hlt, hc⟩ := h (by rw [entCells_length]; omega)
 refine ⟨b, o, hA, hlt, fun k s n hk => ?_⟩
 obtain ⟨e1, e2⟩ := entCells_at hk
 exact ⟨hc _ _ e1, by rw [Nat.add_assoc]; exact hc _ _ e2⟩
theorem Sl.strs {w : World} {F : Nat → Prop} {A : Option Addr} {l : List (List UInt8)} (h : Sl w F A (strCellsOf l)) : Strs w w.heap.size A l := fun hp => by
 obtain ⟨b, o, hA, _, hlt, hc⟩ := h (by unfold strCellsOf; rw [List.length_map]; exact hp)
 exact ⟨b, o, hA, hlt, fun k x hk => hc _ _ (by simp [strCellsOf, hk])⟩
theorem Sl.bts {w : World} {F : Nat → Prop} {A : Option Addr} {l : List Nat} (h : Sl w F A (Tp.cellsOf l)) : Tp.Bts w w.heap.size A l := fun hp => by
 obtain ⟨b, o, hA, _, hlt, hc⟩ := h (by rw [Tp.cellsOf_length]; exact hp)
 exact ⟨b, o, hA, hlt, fun k x hk => hc _ _ (Tp.cellsOf_at hk)⟩
theorem Sl.zs {w : World} {F : Nat → Prop} {A : Option Addr} {l : List Int} (h : Sl w F A (Pa.zCellsOf l)) : Pa.Zs w w.heap.size A l := fun hp => by
 obtain ⟨b, o, hA, _, hlt, hc⟩ := h (by unfold Pa.zCellsOf; rw [List.length_map]; exact hp)
 exact ⟨b, o, hA, hlt, fun k x hk => hc _ _ (by simp [Pa.zCellsOf, hk])⟩
theorem SlV.lab {w : World} {F : Nat → Prop} {v : Value} {l : List Ent} (h : SlV w F v l.length (entCells l)) (hw : l.length ≤ 1048576 ∧ ∀ e ∈ l, e.1.length ≤ 1048576 ∧ W64 e.2) : ∃ A c, v = .slice A l.length c ∧ Lab w A c l := by
 obtain ⟨A, c, h1, h2, h3, h4⟩ := h
 exact ⟨A, c, h1, h4.ents, h2, fun e he => Nat.le_trans (hw.2 e he).1 (by omega), Nat.le_trans hw.1 (by unfold maxLen; omega)⟩
theorem SlV.sl {w : World} {F : Nat → Prop} {v : Value} {l : List (List UInt8)} (h : SlV w F v l.length (strCellsOf l)) (hw : l.length ≤ 1048576 ∧ ∀ x ∈ l, x.length ≤ 1048576) : ∃ A c, v = .slice A l.length c ∧ SL w A c l := by
 obtain ⟨A, c, h1, h2, h3, h4⟩ := h
 exact ⟨A, c, h1, h4.strs, h2, fun x hx => Nat.le_trans (hw.2 x hx) (by omega), Nat.le_trans hw.1 (by omega)⟩
theorem SlV.pl {w : World} {F : Nat → Prop} {v : Value} {l : List Int} (h : SlV w F v l.length (Pa.zCellsOf l)) (hw : Pa.WideZ l) : ∃ A c, v = .slice A l.length c ∧ Pa.PL w A c l := by
 obtain ⟨A, c, h1, h2, h3, h4⟩ := h
 exact ⟨A, c, h1, h4.zs, h2, h3, hw⟩
end Go.Proofs.YtgcbfggoddkhnaaGreatDoor
namespace Go.Proofs.YtgcbfggoddkhnaaGreatDoor
open Go.RowKit
def BoxAt (W : World) (b : Nat) (cs : Array Value) (t : TypeId) : Prop := W.heap[b]? = some (.cells cs t (0, 0))
theorem BoxAt.new (w : World) (cs : Array Value) (t : TypeId) : BoxAt (w.alloc (.cells cs t)) w.heap.size cs t := heap_alloc_new w _
theorem BoxAt.lt {W : World} {b : Nat} {cs : Array Value} {t : TypeId} (h : BoxAt W b cs t) : b < W.heap.size := (Array.getElem?_eq_some_iff.1 h).1
theorem BoxAt.on {W W' : World} {b : Nat} {cs : Array Value} {t : TypeId} (h : BoxAt W b cs t) (hb : Below W.heap.size W W') : BoxAt W' b cs t := (hb.block b h.lt).trans h
theorem BoxAt.below {W W' : World} {b B : Nat} {cs : Array Value} {t : TypeId} (h : BoxAt W b cs t) (hb : Below B W W') (hB : b < B) : BoxAt W' b cs t := (hb.block b hB).trans h
theorem BoxAt.kp {S : Nat → Prop} {W W' : World} {b : Nat} {cs : Array Value} {t : TypeId} (h : BoxAt W b cs t) (hk : Tp.Kp S W W') (hS : ¬ S b) : BoxAt W' b cs t := (hk.block b h.lt hS).trans h
theorem BoxAt.alloc {W : World} {b : Nat} {cs : Array Value} {t : TypeId} (h : BoxAt W b cs t) (o : Obj) : BoxAt (W.alloc o) b cs t := h.on ((Below.refl _ _).alloc (Nat.le_refl _) _)
theorem BoxAt.drew {W : World} {b : Nat} {cs : Array Value} {t : TypeId} (h : BoxAt W b cs t) : BoxAt W.drew b cs t := h
theorem BoxAt.cell {W : World} {b : Nat} {cs : Array Value} {t : TypeId} (h : BoxAt W b cs t) {k : Nat} {v : Value} (hk : cs[k]? = some v) : W.cell? ⟨b, k, none⟩ = some v := by
 simp [World.cell?, show W.heap[b]? = _ from h, hk]
theorem BoxAt.frozen {W : World} {b : Nat} {cs : Array Value} {t : TypeId} (h : BoxAt W b cs t) (k : Nat) : W.frozen? ⟨b, k, none⟩ = false := by simp [World.frozen?, show W.heap[b]? = _ from h]
theorem BoxAt.set {W : World} {b : Nat} {cs : Array Value} {t : TypeId} (h : BoxAt W b cs t) (k : Nat) (v : Value) : BoxAt (W.setCell ⟨b, k, none⟩ v) b (cs.setIfInBounds k v) t := by
 obtain ⟨hlt, hk⟩ := Array.getElem?_eq_some_iff.1 h
 show (W.heap.modify b _)[b]? = _
 rw [Array.getElem?_eq_getElem (by rw [Array.size_modify]; exact hlt), Array.getElem_modify_self, hk]
 rfl
theorem within_any (n most : Int) (w : World) : Calls Tryz.prog 60 #[.int .i64 n, .int .i64 most] w fun e w' => e = .returned (.bool (decide (0 ≤ n ∧ n ≤ most))) ∧ w = w' := by
 by_cases h0 : 0 ≤ n
 · by_cases h1 : n ≤ most
   · rw [decide_eq_true ⟨h0, h1⟩]
     go_enter Tryz.func60, Tryz.ntmps60
     go_wp2_with fail
     go_ret
     exact ⟨by simp, rfl⟩
   · rw [decide_eq_false fun h => h1 h.2]
     go_enter Tryz.func60, Tryz.ntmps60
     go_wp2_with fail
     go_ret
     exact ⟨by simp, rfl⟩
 · rw [decide_eq_false fun h => h0 h.1]
   go_enter Tryz.func60, Tryz.ntmps60
   go_wp2_with fail
   go_ret
   exact ⟨by simp, rfl⟩
end Go.Proofs.YtgcbfggoddkhnaaGreatDoor
namespace Go.Proofs.YtgcbfggoddkhnaaGreatDoor
open Go.RowKit
theorem Tryz.info85 : (Tryz.prog.info? 85).map (fun i => (i.zero, i.size, i.bytes)) = some (some (.agg #[.int .i64 0, .int .i64 0, .int .i64 0]), 3, 24) := by kernel_rfl
theorem Tryz.info45 : (Tryz.prog.info? 45).map (fun i => (i.zero, i.size, i.bytes)) = some (some (.agg #[.int .i64 0, .slice none 0 0, .bool false]), 3, 40) := by kernel_rfl
theorem Tryz.info5x : (Tryz.prog.info? 5).map (fun i => (i.zero, i.size, i.bytes)) = some (some (.int .u8 0), 1, 1) := by kernel_rfl
theorem Tryz.info3x : (Tryz.prog.info? 3).map (fun i => (i.zero, i.size, i.bytes)) = some (some (.int .i64 0), 1, 8) := by kernel_rfl
def RetCells (w : World) (e : TypeId) (size n : Nat) (cs : List Value) (en : Ending) (w' : World) : Prop := Below w.heap.size w w' ∧ ∃ v, en = .returned v ∧ w'.ownsRow w.heap.size e size v n cs
theorem Sl.cells {w : World} {F : Nat → Prop} {a : Addr} {cs : List Value} (h : Sl w F (some a) cs) : ∀ j u, cs[j]? = some u → w.cell? (a.add j) = some u := fun j u hu => by
 obtain ⟨b, o, hA, _, _, hc⟩ := h (by have := (List.getElem?_eq_some_iff.1 hu).1; omega)
 injection hA with hA
 subst hA
 rw [Go.WideShapes.add_plain]
 exact hc j u hu
theorem Sl.none {w : World} {F : Nat → Prop} {cs : List Value} (h : Sl w F none cs) : cs = [] := by
 cases cs with
 | nil => rfl
 | cons x r => obtain ⟨b, o, hA, _⟩ := h (by simp); cases hA
theorem wpList_append_cs {w : World} {ops : Array Oper} {rest : List Oper} {o : Oper} {a : Act} {Q : Exit → Act → World → Prop} (hgd : o.guard = none) (s x : Operand) (t e : TypeId) (ht : Tryz.prog.underlying t = some (.slice e))
  (ho : o.op = .call { callee := .builtin .append, args := #[s, x], argTypes := #[t, t] }) (i0 : TypeInfo) (z : Value) (size bytes : Nat) (hi : Tryz.prog.info? e = some i0) (hz0 : i0.zero = some z) (hz1 : i0.size = size) (hz2 : i0.bytes = bytes) (hzs : z.cells.size = size) (hsz : 0 < size) (hby : bytes ≤ 1000)
  (base : Nat) (v : Value) (k : Nat) (ys : List Value) (hs : a.eval s = v) (hown : w.ownsRow base e size v k ys) (F : Nat → Prop) (A : Option Addr) (n c : Nat) (xs : List Value) (hxe : a.eval x = .slice A n c) (hx : Sl w F A xs) (hl : xs.length = n * size) (h1 : ∀ u ∈ xs, u.oneCell' = true) (hc : A = none → c = 0)
  (hn : k + n ≤ 100000001) (hbase : base ≤ w.heap.size)
  (h : ∀ v' w', w'.ownsRow base e size v' (k + n) (ys ++ xs) → Below base w w' → wpList Tryz.prog ops Q rest (a.put o.dst v') w') : wpList Tryz.prog ops Q (o :: rest) a w := by
 cases A with
 | none =>
  have hx0 := hx.none
  subst hx0
  have hn0 : n = 0 := by
    rcases Nat.eq_zero_or_pos n with h | h
    · exact h
    · have := Nat.mul_pos h hsz
      simp at hl
      omega
  subst hn0
  rw [hc rfl] at hxe
  exact wpList_append_own_none hgd s x t ho base e i0 size ht hi v k _ hs hown hxe (h v w (by simpa using hown) (Below.refl _ _))
 | some ad =>
  refine wpList_append_own w hgd s x t ho base e i0 _ size bytes ht hi hz0 hz1 hz2 hzs hsz v k _ hs hown ad n c xs hxe hl hx.cells h1 (by unfold maxLen; omega) ?_ hbase ?_
  · have := Nat.mul_le_mul hn hby
    omega
  intro v' w' h1 h2 _
  refine h v' w' h1 ((Below.refl base w).grown h2 hbase fun k e => ?_)
  exact (World.ownsRow.lt hown k e).1
set_option maxRecDepth 100000 in
theorem clone39_any {w : World} {F : Nat → Prop} {v : Value} {n : Nat} {cs : List Value} (h : SlV w F v n cs) (hl : cs.length = n * 2) (h1 : ∀ u ∈ cs, u.oneCell' = true) (hn : n ≤ 100000000) :
  Calls Tryz.prog 39 #[v] w (RetCells w 42 2 n cs) := by
 obtain ⟨A, c, rfl, hc, -, hs⟩ := h
 cases A with
 | none =>
  have hl0 := hs.none
  subst hl0
  have hn0 : n = 0 := by simp at hl; omega
  subst hn0
  have hc0 := hc rfl
  subst hc0
  clear hc hs h1 hl
  have hq : ∀ w : World, (binOp .eql 23 (.slice none 0 0) (.slice none 0 0)).run Tryz.prog w = .ok (.bool true) w := fun _ => rfl
  go_enter Tryz.func39, Tryz.ntmps39
  go_wp2_with fail
  go_ret
  exact ⟨Below.refl _ _, _, rfl, World.ownsRow_nil _ _ _ _⟩
 | some a =>
  obtain ⟨i0, hi, hz0, hz1, hz2⟩ := info_parts Tryz.info42
  have HS := Lib.hid hs
  have H1 := Lib.hid h1
  have HL := Lib.hid hl
  clear hs hc h1 hl
  have hq : ∀ w : World, (binOp .eql 23 (.slice (some a) n c) (.slice none 0 0)).run Tryz.prog w = .ok (.bool false) w := fun _ => rfl
  have hr0 : Hid ((w.alloc (.cells #[] 42)).ownsRow w.heap.size 42 2 (.slice (some ⟨w.heap.size, 0, none⟩) 0 0) 0 []) := World.ownsRow_lit (base := w.heap.size) w #[] 0 (Nat.le_refl _) (by unfold maxLen; omega) rfl
  have hal : Hid (Below w.heap.size w (w.alloc (.cells #[] 42))) := (Below.refl _ _).alloc (Nat.le_refl _) _
  have hsz : w.heap.size ≤ (w.alloc (.cells #[] 42)).heap.size := by simp
  go_enter Tryz.func39, Tryz.ntmps39
  go_wp2_with (first
   | (at_builtin; refine wpList_append_cs rfl _ _ 23 42 Tryz.underlying23 rfl i0 _ 2 _ hi hz0 hz1 hz2 rfl (by decide) (by decide) w.heap.size _ 0 [] rfl hr0.out No (some a) n c cs rfl (HS.out.on hal.out (fun _ _ h => h.elim)) HL.out H1.out (fun h => by cases h) (by omega) hsz ?_))
  intro v' w1 hown hb1
  have B1 : Hid (Below w.heap.size w w1) := hal.out.trans hb1
  have R1 : Hid (w1.ownsRow w.heap.size 42 2 v' n cs) := hown
  clear hown hb1 hi hz0 hz1 hz2
  go_wp2_with fail
  go_ret
  exact ⟨B1.out, _, rfl, R1.out⟩
set_option maxRecDepth 100000 in
theorem clone40_any {w : World} {F : Nat → Prop} {v : Value} {n : Nat} {cs : List Value} (h : SlV w F v n cs) (hl : cs.length = n * 3) (h1 : ∀ u ∈ cs, u.oneCell' = true) (hn : n ≤ 100000000) :
  Calls Tryz.prog 40 #[v] w (RetCells w 85 3 n cs) := by
 obtain ⟨A, c, rfl, hc, -, hs⟩ := h
 cases A with
 | none =>
  have hl0 := hs.none
  subst hl0
  have hn0 : n = 0 := by simp at hl; omega
  subst hn0
  have hc0 := hc rfl
  subst hc0
  clear hc hs h1 hl
  have hq : ∀ w : World, (binOp .eql 24 (.slice none 0 0) (.slice none 0 0)).run Tryz.prog w = .ok (.bool true) w := fun _ => rfl
  go_enter Tryz.func40, Tryz.ntmps40
  go_wp2_with fail
  go_ret
  exact ⟨Below.refl _ _, _, rfl, World.ownsRow_nil _ _ _ _⟩
 | some a =>
  obtain ⟨i0, hi, hz0, hz1, hz2⟩ := info_parts Tryz.info85
  have HS := Lib.hid hs
  have H1 := Lib.hid h1
  have HL := Lib.hid hl
  clear hs hc h1 hl
  have hq : ∀ w : World, (binOp .eql 24 (.slice (some a) n c) (.slice none 0 0)).run Tryz.prog w = .ok (.bool false) w := fun _ => rfl
  have hr0 : Hid ((w.alloc (.cells #[] 85)).ownsRow w.heap.size 85 3 (.slice (some ⟨w.heap.size, 0, none⟩) 0 0) 0 []) := World.ownsRow_lit (base := w.heap.size) w #[] 0 (Nat.le_refl _) (by unfold maxLen; omega) rfl
  have hal : Hid (Below w.heap.size w (w.alloc (.cells #[] 85))) := (Below.refl _ _).alloc (Nat.le_refl _) _
  have hsz : w.heap.size ≤ (w.alloc (.cells #[] 85)).heap.size := by simp
  go_enter Tryz.func40, Tryz.ntmps40
  go_wp2_with (first
   | (at_builtin; refine wpList_append_cs rfl _ _ 24 85 Tryz.underlying24 rfl i0 _ 3 _ hi hz0 hz1 hz2 rfl (by decide) (by decide) w.heap.size _ 0 [] rfl hr0.out No (some a) n c cs rfl (HS.out.on hal.out (fun _ _ h => h.elim)) HL.out H1.out (fun h => by cases h) (by omega) hsz ?_))
  intro v' w1 hown hb1
  have B1 : Hid (Below w.heap.size w w1) := hal.out.trans hb1
  have R1 : Hid (w1.ownsRow w.heap.size 85 3 v' n cs) := hown
  clear hown hb1 hi hz0 hz1 hz2
  go_wp2_with fail
  go_ret
  exact ⟨B1.out, _, rfl, R1.out⟩
set_option maxRecDepth 100000 in
theorem clone41_any {w : World} {F : Nat → Prop} {v : Value} {n : Nat} {cs : List Value} (h : SlV w F v n cs) (hl : cs.length = n * 1) (h1 : ∀ u ∈ cs, u.oneCell' = true) (hn : n ≤ 100000000) :
  Calls Tryz.prog 41 #[v] w (RetCells w 5 1 n cs) := by
 obtain ⟨A, c, rfl, hc, -, hs⟩ := h
 cases A with
 | none =>
  have hl0 := hs.none
  subst hl0
  have hn0 : n = 0 := by simp at hl; omega
  subst hn0
  have hc0 := hc rfl
  subst hc0
  clear hc hs h1 hl
  have hq : ∀ w : World, (binOp .eql 25 (.slice none 0 0) (.slice none 0 0)).run Tryz.prog w = .ok (.bool true) w := fun _ => rfl
  go_enter Tryz.func41, Tryz.ntmps41
  go_wp2_with fail
  go_ret
  exact ⟨Below.refl _ _, _, rfl, World.ownsRow_nil _ _ _ _⟩
 | some a =>
  obtain ⟨i0, hi, hz0, hz1, hz2⟩ := info_parts Tryz.info5x
  have HS := Lib.hid hs
  have H1 := Lib.hid h1
  have HL := Lib.hid hl
  clear hs hc h1 hl
  have hq : ∀ w : World, (binOp .eql 25 (.slice (some a) n c) (.slice none 0 0)).run Tryz.prog w = .ok (.bool false) w := fun _ => rfl
  have hr0 : Hid ((w.alloc (.cells #[] 5)).ownsRow w.heap.size 5 1 (.slice (some ⟨w.heap.size, 0, none⟩) 0 0) 0 []) := World.ownsRow_lit (base := w.heap.size) w #[] 0 (Nat.le_refl _) (by unfold maxLen; omega) rfl
  have hal : Hid (Below w.heap.size w (w.alloc (.cells #[] 5))) := (Below.refl _ _).alloc (Nat.le_refl _) _
  have hsz : w.heap.size ≤ (w.alloc (.cells #[] 5)).heap.size := by simp
  go_enter Tryz.func41, Tryz.ntmps41
  go_wp2_with (first
   | (at_builtin; refine wpList_append_cs rfl _ _ 25 5 Tryz.underlying25 rfl i0 _ 1 _ hi hz0 hz1 hz2 rfl (by decide) (by decide) w.heap.size _ 0 [] rfl hr0.out No (some a) n c cs rfl (HS.out.on hal.out (fun _ _ h => h.elim)) HL.out H1.out (fun h => by cases h) (by omega) hsz ?_))
  intro v' w1 hown hb1
  have B1 : Hid (Below w.heap.size w w1) := hal.out.trans hb1
  have R1 : Hid (w1.ownsRow w.heap.size 5 1 v' n cs) := hown
  clear hown hb1 hi hz0 hz1 hz2
  go_wp2_with fail
  go_ret
  exact ⟨B1.out, _, rfl, R1.out⟩
set_option maxRecDepth 100000 in
theorem clone42_any {w : World} {F : Nat → Prop} {v : Value} {n : Nat} {cs : List Value} (h : SlV w F v n cs) (hl : cs.length = n * 1) (h1 : ∀ u ∈ cs, u.oneCell' = true) (hn : n ≤ 100000000) :
  Calls Tryz.prog 42 #[v] w (RetCells w 9 1 n cs) := by
 obtain ⟨A, c, rfl, hc, -, hs⟩ := h
 cases A with
 | none =>
  have hl0 := hs.none
  subst hl0
  have hn0 : n = 0 := by simp at hl; omega
  subst hn0
  have hc0 := hc rfl
  subst hc0
  clear hc hs h1 hl
  have hq : ∀ w : World, (binOp .eql 26 (.slice none 0 0) (.slice none 0 0)).run Tryz.prog w = .ok (.bool true) w := fun _ => rfl
  go_enter Tryz.func42, Tryz.ntmps42
  go_wp2_with fail
  go_ret
  exact ⟨Below.refl _ _, _, rfl, World.ownsRow_nil _ _ _ _⟩
 | some a =>
  obtain ⟨i0, hi, hz0, hz1, hz2⟩ := info_parts Tryz.info9
  have HS := Lib.hid hs
  have H1 := Lib.hid h1
  have HL := Lib.hid hl
  clear hs hc h1 hl
  have hq : ∀ w : World, (binOp .eql 26 (.slice (some a) n c) (.slice none 0 0)).run Tryz.prog w = .ok (.bool false) w := fun _ => rfl
  have hr0 : Hid ((w.alloc (.cells #[] 9)).ownsRow w.heap.size 9 1 (.slice (some ⟨w.heap.size, 0, none⟩) 0 0) 0 []) := World.ownsRow_lit (base := w.heap.size) w #[] 0 (Nat.le_refl _) (by unfold maxLen; omega) rfl
  have hal : Hid (Below w.heap.size w (w.alloc (.cells #[] 9))) := (Below.refl _ _).alloc (Nat.le_refl _) _
  have hsz : w.heap.size ≤ (w.alloc (.cells #[] 9)).heap.size := by simp
  go_enter Tryz.func42, Tryz.ntmps42
  go_wp2_with (first
   | (at_builtin; refine wpList_append_cs rfl _ _ 26 9 Tryz.underlying26 rfl i0 _ 1 _ hi hz0 hz1 hz2 rfl (by decide) (by decide) w.heap.size _ 0 [] rfl hr0.out No (some a) n c cs rfl (HS.out.on hal.out (fun _ _ h => h.elim)) HL.out H1.out (fun h => by cases h) (by omega) hsz ?_))
  intro v' w1 hown hb1
  have B1 : Hid (Below w.heap.size w w1) := hal.out.trans hb1
  have R1 : Hid (w1.ownsRow w.heap.size 9 1 v' n cs) := hown
  clear hown hb1 hi hz0 hz1 hz2
  go_wp2_with fail
  go_ret
  exact ⟨B1.out, _, rfl, R1.out⟩
set_option maxRecDepth 100000 in
theorem clone43_any {w : World} {F : Nat → Prop} {v : Value} {n : Nat} {cs : List Value} (h : SlV w F v n cs) (hl : cs.length = n * 3) (h1 : ∀ u ∈ cs, u.oneCell' = true) (hn : n ≤ 100000000) :
  Calls Tryz.prog 43 #[v] w (RetCells w 45 3 n cs) := by
 obtain ⟨A, c, rfl, hc, -, hs⟩ := h
 cases A with
 | none =>
  have hl0 := hs.none
  subst hl0
  have hn0 : n = 0 := by simp at hl; omega
  subst hn0
  have hc0 := hc rfl
  subst hc0
  clear hc hs h1 hl
  have hq : ∀ w : World, (binOp .eql 27 (.slice none 0 0) (.slice none 0 0)).run Tryz.prog w = .ok (.bool true) w := fun _ => rfl
  go_enter Tryz.func43, Tryz.ntmps43
  go_wp2_with fail
  go_ret
  exact ⟨Below.refl _ _, _, rfl, World.ownsRow_nil _ _ _ _⟩
 | some a =>
  obtain ⟨i0, hi, hz0, hz1, hz2⟩ := info_parts Tryz.info45
  have HS := Lib.hid hs
  have H1 := Lib.hid h1
  have HL := Lib.hid hl
  clear hs hc h1 hl
  have hq : ∀ w : World, (binOp .eql 27 (.slice (some a) n c) (.slice none 0 0)).run Tryz.prog w = .ok (.bool false) w := fun _ => rfl
  have hr0 : Hid ((w.alloc (.cells #[] 45)).ownsRow w.heap.size 45 3 (.slice (some ⟨w.heap.size, 0, none⟩) 0 0) 0 []) := World.ownsRow_lit (base := w.heap.size) w #[] 0 (Nat.le_refl _) (by unfold maxLen; omega) rfl
  have hal : Hid (Below w.heap.size w (w.alloc (.cells #[] 45))) := (Below.refl _ _).alloc (Nat.le_refl _) _
  have hsz : w.heap.size ≤ (w.alloc (.cells #[] 45)).heap.size := by simp
  go_enter Tryz.func43, Tryz.ntmps43
  go_wp2_with (first
   | (at_builtin; refine wpList_append_cs rfl _ _ 27 45 Tryz.underlying27 rfl i0 _ 3 _ hi hz0 hz1 hz2 rfl (by decide) (by decide) w.heap.size _ 0 [] rfl hr0.out No (some a) n c cs rfl (HS.out.on hal.out (fun _ _ h => h.elim)) HL.out H1.out (fun h => by cases h) (by omega) hsz ?_))
  intro v' w1 hown hb1
  have B1 : Hid (Below w.heap.size w w1) := hal.out.trans hb1
  have R1 : Hid (w1.ownsRow w.heap.size 45 3 v' n cs) := hown
  clear hown hb1 hi hz0 hz1 hz2
  go_wp2_with fail
  go_ret
  exact ⟨B1.out, _, rfl, R1.out⟩
set_option maxRecDepth 100000 in
theorem clone44_any {w : World} {F : Nat → Prop} {v : Value} {n : Nat} {cs : List Value} (h : SlV w F v n cs) (hl : cs.length = n * 1) (h1 : ∀ u ∈ cs, u.oneCell' = true) (hn : n ≤ 100000000) :
  Calls Tryz.prog 44 #[v] w (RetCells w 3 1 n cs) := by
 obtain ⟨A, c, rfl, hc, -, hs⟩ := h
 cases A with
 | none =>
  have hl0 := hs.none
  subst hl0
  have hn0 : n = 0 := by simp at hl; omega
  subst hn0
  have hc0 := hc rfl
  subst hc0
  clear hc hs h1 hl
  have hq : ∀ w : World, (binOp .eql 43 (.slice none 0 0) (.slice none 0 0)).run Tryz.prog w = .ok (.bool true) w := fun _ => rfl
  go_enter Tryz.func44, Tryz.ntmps44
  go_wp2_with fail
  go_ret
  exact ⟨Below.refl _ _, _, rfl, World.ownsRow_nil _ _ _ _⟩
 | some a =>
  obtain ⟨i0, hi, hz0, hz1, hz2⟩ := info_parts Tryz.info3x
  have HS := Lib.hid hs
  have H1 := Lib.hid h1
  have HL := Lib.hid hl
  clear hs hc h1 hl
  have hq : ∀ w : World, (binOp .eql 43 (.slice (some a) n c) (.slice none 0 0)).run Tryz.prog w = .ok (.bool false) w := fun _ => rfl
  have hr0 : Hid ((w.alloc (.cells #[] 3)).ownsRow w.heap.size 3 1 (.slice (some ⟨w.heap.size, 0, none⟩) 0 0) 0 []) := World.ownsRow_lit (base := w.heap.size) w #[] 0 (Nat.le_refl _) (by unfold maxLen; omega) rfl
  have hal : Hid (Below w.heap.size w (w.alloc (.cells #[] 3))) := (Below.refl _ _).alloc (Nat.le_refl _) _
  have hsz : w.heap.size ≤ (w.alloc (.cells #[] 3)).heap.size := by simp
  go_enter Tryz.func44, Tryz.ntmps44
  go_wp2_with (first
   | (at_builtin; refine wpList_append_cs rfl _ _ 43 3 Tryz.underlying43 rfl i0 _ 1 _ hi hz0 hz1 hz2 rfl (by decide) (by decide) w.heap.size _ 0 [] rfl hr0.out No (some a) n c cs rfl (HS.out.on hal.out (fun _ _ h => h.elim)) HL.out H1.out (fun h => by cases h) (by omega) hsz ?_))
  intro v' w1 hown hb1
  have B1 : Hid (Below w.heap.size w w1) := hal.out.trans hb1
  have R1 : Hid (w1.ownsRow w.heap.size 3 1 v' n cs) := hown
  clear hown hb1 hi hz0 hz1 hz2
  go_wp2_with fail
  go_ret
  exact ⟨B1.out, _, rfl, R1.out⟩
end Go.Proofs.YtgcbfggoddkhnaaGreatDoor
namespace Go.Proofs.YtgcbfggoddkhnaaGreatDoor
open Go.RowKit
def mapCells : List Mp → List Value → List Value
 | m :: r, s :: t => .int .i64 m.1 :: s :: .bool m.2.2 :: mapCells r t
 | _, _ => []
theorem mapCells_length : ∀ {ms : List Mp} {ss : List Value}, ss.length = ms.length → (mapCells ms ss).length = ms.length * 3
 | [], [], _ => rfl
 | m :: r, s :: t, h => by
  have := mapCells_length (ms := r) (ss := t) (by simpa using h)
  simp [mapCells, this]
  omega
 | [], s :: t, h => by simp at h
 | m :: r, [], h => by simp at h
theorem mapCells_at : ∀ {ms : List Mp} {ss : List Value} {k : Nat} {m : Mp} {s : Value}, ms[k]? = some m → ss[k]? = some s →
  (mapCells ms ss)[k * 3]? = some (.int .i64 m.1) ∧ (mapCells ms ss)[k * 3 + 1]? = some s ∧ (mapCells ms ss)[k * 3 + 2]? = some (.bool m.2.2)
 | [], _, k, m, s, h, _ => by simp at h
 | x :: r, [], k, m, s, _, h => by simp at h
 | x :: r, y :: t, k, m, s, h1, h2 => by
  cases k with
  | zero => simp at h1 h2; subst h1 h2; simp [mapCells]
  | succ k =>
   have := mapCells_at (ms := r) (ss := t) (k := k) (m := m) (s := s) (by simpa using h1) (by simpa using h2)
   rw [show (k + 1) * 3 = k * 3 + 1 + 1 + 1 by omega]
   simpa [mapCells] using this
theorem mapCells_get : ∀ {ms : List Mp} {ss : List Value} {j : Nat} {u : Value}, (mapCells ms ss)[j]? = some u →
  ∃ (k : Nat) (m : Mp) (s : Value), ms[k]? = some m ∧ ss[k]? = some s ∧ ((j = k * 3 ∧ u = .int .i64 m.1) ∨ (j = k * 3 + 1 ∧ u = s) ∨ (j = k * 3 + 2 ∧ u = .bool m.2.2))
 | [], [], j, u, h => by simp [mapCells] at h
 | [], _ :: _, j, u, h => by simp [mapCells] at h
 | _ :: _, [], j, u, h => by simp [mapCells] at h
 | x :: r, y :: t, j, u, h => by
  match j, h with
  | 0, h => simp [mapCells] at h; exact ⟨0, x, y, rfl, rfl, .inl ⟨rfl, h.symm⟩⟩
  | 1, h => simp [mapCells] at h; exact ⟨0, x, y, rfl, rfl, .inr (.inl ⟨rfl, h.symm⟩)⟩
  | 2, h => simp [mapCells] at h; exact ⟨0, x, y, rfl, rfl, .inr (.inr ⟨rfl, h.symm⟩)⟩
  | j + 3, h =>
   obtain ⟨k, m, s, h1, h2, h3⟩ := mapCells_get (ms := r) (ss := t) (j := j) (u := u) (by simpa [mapCells] using h)
   refine ⟨k + 1, m, s, by simpa using h1, by simpa using h2, ?_⟩
   rcases h3 with ⟨rfl, e⟩ | ⟨rfl, e⟩ | ⟨rfl, e⟩
   · exact .inl ⟨by omega, e⟩
   · exact .inr (.inl ⟨by omega, e⟩)
   · exact .inr (.inr ⟨by omega, e⟩)
theorem mapCells_set : ∀ {ms : List Mp} {ss : List Value} (k : Nat) (s : Value), k < ss.length → k < ms.length → (mapCells ms ss).set (k * 3 + 1) s = mapCells ms (ss.set k s)
 | [], _, k, s, _, h => by simp at h
 | _ :: _, [], k, s, h, _ => by simp at h
 | x :: r, y :: t, k, s, h1, h2 => by
  cases k with
  | zero => simp [mapCells]
  | succ k =>
   have := mapCells_set (ms := r) (ss := t) k s (by simpa using h1) (by simpa using h2)
   rw [show (k + 1) * 3 + 1 = k * 3 + 1 + 1 + 1 + 1 by omega]
   simp [mapCells, this]
def SegsV (w : World) (F : Nat → Prop) (ms : List Mp) (ss : List Value) : Prop := ss.length = ms.length ∧ ∀ (k : Nat) (m : Mp) (s : Value), ms[k]? = some m → ss[k]? = some s → SlV w F s m.2.1.length (Pa.zCellsOf m.2.1)
theorem mapCells_one {w : World} {F : Nat → Prop} {ms : List Mp} {ss : List Value} (h : SegsV w F ms ss) : ∀ u ∈ mapCells ms ss, u.oneCell' = true := by
 intro u hu
 obtain ⟨j, hj⟩ := List.mem_iff_getElem?.1 hu
 obtain ⟨k, m, s, h1, h2, ⟨_, rfl⟩ | ⟨_, rfl⟩ | ⟨_, rfl⟩⟩ := mapCells_get hj
 · rfl
 · obtain ⟨A, c, rfl, _⟩ := h.2 k m u h1 h2
   rfl
 · rfl
theorem MapsV.cells {w : World} {F : Nat → Prop} {v : Value} {ms : List Mp} (h : MapsV w F v ms) : ∃ ss, SegsV w F ms ss ∧ SlV w F v ms.length (mapCells ms ss) := by
 obtain ⟨A, c, rfl, h2, h3, h4⟩ := h
 by_cases hp : 0 < ms.length
 · obtain ⟨b, o, hA, hb, hlt, hc⟩ := h4 hp
   obtain ⟨ss, hss⟩ : ∃ ss, ss = (List.range ms.length).map fun k => (w.cell? ⟨b, o + k * 3 + 1, none⟩).getD undef := ⟨_, rfl⟩
   have hlen : ss.length = ms.length := by rw [hss]; simp
   have hat : ∀ (k : Nat) (s : Value), ss[k]? = some s → ∃ m, ms[k]? = some m ∧ w.cell? ⟨b, o + k * 3 + 1, none⟩ = some s ∧ SlV w F s m.2.1.length (Pa.zCellsOf m.2.1) := by
     intro k s hk
     have hkl : k < ms.length := by have := (List.getElem?_eq_some_iff.1 hk).1; omega
     obtain ⟨m, hm⟩ : ∃ m, ms[k]? = some m := ⟨_, List.getElem?_eq_getElem hkl⟩
     obtain ⟨_, ⟨s', c2, hs'⟩, _⟩ := hc k m hm
     rw [hss] at hk
     simp [hkl, c2] at hk
     subst hk
     exact ⟨m, hm, c2, hs'⟩
   refine ⟨ss, ⟨hlen, fun k m s hm hs => ?_⟩, A, c, rfl, h2, h3, fun _ => ⟨b, o, hA, hb, hlt, fun j u hj => ?_⟩⟩
   · obtain ⟨m', hm', _, h⟩ := hat k s hs
     rw [hm] at hm'
     cases hm'
     exact h
   · obtain ⟨k, m, s, h1, h2, h3⟩ := mapCells_get hj
     obtain ⟨c1, _, c3⟩ := hc k m h1
     rcases h3 with ⟨rfl, rfl⟩ | ⟨rfl, rfl⟩ | ⟨rfl, rfl⟩
     · exact c1
     · obtain ⟨_, _, h, _⟩ := hat k u h2
       rw [← Nat.add_assoc]
       exact h
     · rw [← Nat.add_assoc]
       exact c3
 · have : ms = [] := List.eq_nil_of_length_eq_zero (by omega)
   subst this
   exact ⟨[], ⟨rfl, fun k m s h => by simp at h⟩, A, c, rfl, h2, h3, fun h => absurd h (by simp [mapCells])⟩
theorem mapsV_of {w : World} {F : Nat → Prop} {v : Value} {ms : List Mp} {ss : List Value} (h : SegsV w F ms ss) (hv : SlV w F v ms.length (mapCells ms ss)) : MapsV w F v ms := by
 obtain ⟨A, c, rfl, h2, h3, h4⟩ := hv
 refine ⟨A, c, rfl, h2, h3, fun hp => ?_⟩
 obtain ⟨b, o, hA, hb, hlt, hc⟩ := h4 (by rw [mapCells_length h.1]; omega)
 refine ⟨b, o, hA, hb, hlt, fun k m hm => ?_⟩
 have hkl : k < ss.length := by have := (List.getElem?_eq_some_iff.1 hm).1; rw [h.1]; exact this
 obtain ⟨s, hs⟩ : ∃ s, ss[k]? = some s := ⟨_, List.getElem?_eq_getElem hkl⟩
 obtain ⟨e1, e2, e3⟩ := mapCells_at hm hs
 exact ⟨hc _ _ e1, ⟨s, by rw [Nat.add_assoc]; exact hc _ _ e2, h.2 k m s hm hs⟩, by rw [Nat.add_assoc]; exact hc _ _ e3⟩
theorem SegsV.kp {S F F' : Nat → Prop} {w w' : World} {ms : List Mp} {ss : List Value} (h : SegsV w F ms ss) (hk : Tp.Kp S w w') (hS : ∀ b, b < w.heap.size → S b → F b) (hF : ∀ b, b < w.heap.size → F' b → F b) : SegsV w' F' ms ss :=
 ⟨h.1, fun k m s h1 h2 => (h.2 k m s h1 h2).kp hk hS hF⟩
theorem own_kp {S : Nat → Prop} {w w' : World} {base : Nat} {e : TypeId} {size : Nat} {v : Value} {n : Nat} {xs : List Value} (h : w.ownsRow base e size v n xs) (hk : Tp.Kp S w w') (hS : ∀ j, v.ownBlock = some j → ¬ S j) : w'.ownsRow base e size v n xs := by
 refine ⟨h.1, ?_⟩
 rcases h.2 with h2 | ⟨g, cap, cur, hv, hb, hh, hr⟩
 · exact .inl h2
 · have hlt := h.lt g (by rw [hv]; rfl)
   exact .inr ⟨g, cap, cur, hv, hb, (hk.block g hlt.2 (hS g (by rw [hv]; rfl))).trans hh, hr⟩
theorem own_on {w w' : World} {base : Nat} {e : TypeId} {size : Nat} {v : Value} {n : Nat} {xs : List Value} (h : w.ownsRow base e size v n xs) (hb : Below w.heap.size w w') : w'.ownsRow base e size v n xs := own_kp h (Tp.Kp.of_below hb fun _ => False) fun _ _ h => h
theorem own_base {w : World} {base base' : Nat} {e : TypeId} {size : Nat} {v : Value} {n : Nat} {xs : List Value} (h : w.ownsRow base e size v n xs) (hb : base' ≤ base) : w.ownsRow base' e size v n xs := by
 refine ⟨h.1, ?_⟩
 rcases h.2 with h2 | ⟨g, cap, cur, hv, hbb, hh, hr⟩
 · exact .inl h2
 · exact .inr ⟨g, cap, cur, hv, Nat.le_trans hb hbb, hh, hr⟩
end Go.Proofs.YtgcbfggoddkhnaaGreatDoor
namespace Go.Proofs.YtgcbfggoddkhnaaGreatDoor
open Go.RowKit
def R9 : Value → Option (DataW Value × List MemPlace) := fun v => some (.held v, [])
theorem law9 : Maps.Keyed Tryz.prog 9 := Maps.string_keyed Tryz.underlying9
def zeroO : Value := .agg #[.int .i64 0, .slice none 0 0, .slice none 0 0, .int .i64 0, .slice none 0 0, .slice none 0 0, .int .i64 0, .slice none 0 0, .int .i64 0, .slice none 0 0]
theorem zero29 (w : World) : (zeroValue 29).run Tryz.prog w = .ok zeroO w := Tryz.zeroValue29 w
theorem key9 {x : List UInt8} (hx : x.length ≤ 100000000000) : keyOf Tryz.prog 9 (.string (str x)) = some (.string x) := by
 rw [keyOf_string Tryz.underlying9]
 have h : (str x).size ≤ maxLen := by rw [str_size]; unfold maxLen; omega
 unfold mapKey
 rw [Tryz.underlying9]
 simp only [h, if_true, str_list]
abbrev TT := List UInt8 → Option Ob
def MapV (w : World) (b n : Nat) (T : TT) (V : List UInt8 → Value) : Prop :=
 ∃ D : DataW Value, w.ownsMap Tryz.prog 9 R9 b n D ∧ ∀ s : List UInt8, (T s = none ∧ Maps.has D (.string s) = false) ∨ ((T s).isSome = true ∧ Maps.has D (.string s) = true ∧ ∀ z, D.atKey (.string s) z = .held (V s))
theorem MapV.lt {w : World} {b n : Nat} {T : TT} {V : List UInt8 → Value} (h : MapV w b n T V) : b < w.heap.size := by
 obtain ⟨D, h, _⟩ := h
 exact h.lt
theorem MapV.of_block {w w' : World} {b n : Nat} {T : TT} {V : List UInt8 → Value} (h : MapV w b n T V) (hb : w'.heap[b]? = w.heap[b]?) : MapV w' b n T V := by
 obtain ⟨D, ⟨es, clock, h1, h2⟩, h3⟩ := h
 exact ⟨D, ⟨es, clock, hb.trans h1, h2⟩, h3⟩
theorem MapV.on {w w' : World} {b n : Nat} {T : TT} {V : List UInt8 → Value} (h : MapV w b n T V) (hb : Below w.heap.size w w') : MapV w' b n T V := h.of_block (hb.block b h.lt)
theorem MapV.kp {S : Nat → Prop} {w w' : World} {b n : Nat} {T : TT} {V : List UInt8 → Value} (h : MapV w b n T V) (hk : Tp.Kp S w w') (hS : ¬ S b) : MapV w' b n T V := h.of_block (hk.block b h.lt hS)
theorem MapV.more {w : World} {b n m : Nat} {T : TT} {V : List UInt8 → Value} (h : MapV w b n T V) (hn : n ≤ m) : MapV w b m T V := by
 obtain ⟨D, h1, h3⟩ := h
 exact ⟨D, h1.mono hn, h3⟩
theorem MapV.ne {w : World} {b n : Nat} {T : TT} {V : List UInt8 → Value} (h : MapV w b n T V) {a : Addr} {v : Value} (hc : w.cell? a = some v) : a.block ≠ b := fun e => by
 obtain ⟨D, ⟨es, clock, h1, _⟩, _⟩ := h
 rw [← e] at h1
 simp [World.cell?, h1] at hc
theorem MapV.made (w : World) : MapV (w.alloc (.map #[] 0)) w.heap.size 0 (fun _ => none) fun _ => undef :=
 ⟨.map [], World.ownsMap_made w _ _ _, fun _ => .inl ⟨rfl, rfl⟩⟩
def lookV (T : TT) (V : List UInt8 → Value) (s : List UInt8) : Value := match T s with
 | some _ => V s
 | none => zeroO
set_option maxRecDepth 100000 in
theorem MapV.look {w : World} {b n : Nat} {T : TT} {V : List UInt8 → Value} (h : MapV w b n T V) {s : List UInt8} (hs : s.length ≤ 100000000000) :
   (Instr.lookup 72 (.map (some b)) (.string (str s)) true).run Tryz.prog w = .ok (.tuple #[lookV T V s, .bool (T s).isSome]) w := by
 obtain ⟨D, h, h3⟩ := h
 obtain ⟨v, ps, hrun, hat⟩ := h.look_ok law9 Tryz.underlying72 (zero29 w) (zd := .held zeroO) (zp := []) rfl (key9 hs)
 rw [hrun]
 have hv : DataW.held v = D.atKey (.string s) (.held zeroO) := by
   unfold R9 at hat
   injection hat with hat
   injection hat
 rcases h3 s with ⟨h4, h5⟩ | ⟨h4, h5, h6⟩
 · rw [Maps.atKey_of_not_has h5] at hv
   injection hv with hv
   rw [h5, hv]
   unfold lookV
   rw [h4]
   rfl
 · rw [h6] at hv
   injection hv with hv
   rw [h5, hv]
   unfold lookV
   obtain ⟨o, ho⟩ := Option.isSome_iff_exists.1 h4
   rw [ho]
   rfl
set_option maxRecDepth 100000 in
theorem MapV.look1 {w : World} {b n : Nat} {T : TT} {V : List UInt8 → Value} (h : MapV w b n T V) {s : List UInt8} (hs : s.length ≤ 100000000000) :
   (Instr.lookup 72 (.map (some b)) (.string (str s)) false).run Tryz.prog w = .ok (lookV T V s) w := by
 obtain ⟨D, h, h3⟩ := h
 obtain ⟨v, ps, hrun, hat⟩ := h.lookup law9 Tryz.underlying72 (zero29 w) (zd := .held zeroO) (zp := []) rfl (key9 hs)
 rw [hrun]
 have hv : DataW.held v = D.atKey (.string s) (.held zeroO) := by
   unfold R9 at hat
   injection hat with hat
   injection hat
 rcases h3 s with ⟨h4, h5⟩ | ⟨h4, h5, h6⟩
 · rw [Maps.atKey_of_not_has h5] at hv
   injection hv with hv
   rw [hv]
   unfold lookV
   rw [h4]
 · rw [h6] at hv
   injection hv with hv
   rw [hv]
   unfold lookV
   obtain ⟨o, ho⟩ := Option.isSome_iff_exists.1 h4
   rw [ho]
def updT (T : TT) (s : List UInt8) (o : Ob) : TT := fun x => if x = s then some o else T x
def updV (V : List UInt8 → Value) (s : List UInt8) (v : Value) : List UInt8 → Value := fun x => if x = s then v else V x
def delT (T : TT) (s : List UInt8) : TT := fun x => if x = s then none else T x
noncomputable def putW (b : Nat) (s : List UInt8) (v : Value) (w : World) : World := match (Instr.mapUpdate 72 (.map (some b)) (.string (str s)) v).run Tryz.prog w with
 | .ok _ w' => w'
 | .halt _ w' => w'
theorem MapV.put {w : World} {b n : Nat} {T : TT} {V : List UInt8 → Value} (h : MapV w b n T V) (hn : n ≤ 100000000000) {s : List UInt8} (hs : s.length ≤ 100000000000) (v : Value) :
   (Instr.mapUpdate 72 (.map (some b)) (.string (str s)) v).run Tryz.prog w = .ok () (putW b s v w) ∧ (∀ o, MapV (putW b s v w) b (n + 1) (updT T s o) (updV V s v)) ∧ w.grownBy (putW b s v w) (some b) := by
 obtain ⟨D, h, h3⟩ := h
 obtain ⟨w', hrun, h1, h2⟩ := h.update (R := R9) law9 Tryz.underlying72 (by unfold maxLen; omega) (key9 hs) (val := v) (d := .held v) (ps := []) rfl
 have e : putW b s v w = w' := by unfold putW; rw [hrun]
 rw [e]
 refine ⟨hrun, fun o => ⟨_, h1, fun y => ?_⟩, h2⟩
 unfold updT updV
 by_cases e : y = s
 · subst e
   rw [if_pos rfl, if_pos rfl]
   exact .inr ⟨rfl, Maps.has_put_same h.isMap (by simp [WideAt.IsKeyLit]) _, fun d => Maps.atKey_put_same h.isMap (by simp [WideAt.IsKeyLit]) _ _⟩
 · rw [if_neg e, if_neg e]
   have hne : (Lit.string y) ≠ .string s := fun h => e (by injection h with h)
   rcases h3 y with ⟨h4, h5⟩ | ⟨h4, h5, h6⟩
   · exact .inl ⟨h4, by rw [Maps.has_put_other hne, h5]⟩
   · exact .inr ⟨h4, by rw [Maps.has_put_other hne, h5], fun d => by rw [Maps.atKey_put_other hne, h6]⟩
noncomputable def delW (b : Nat) (s : List UInt8) (w : World) : World := match (Builtin.delete_ #[72, 9] 0 #[.map (some b), .string (str s)]).run Tryz.prog w with
 | .ok _ w' => w'
 | .halt _ w' => w'
theorem MapV.del {w : World} {b n : Nat} {T : TT} {V : List UInt8 → Value} (h : MapV w b n T V) {s : List UInt8} (hs : s.length ≤ 100000000000) (ty : TypeId) :
   ∃ w', (Builtin.delete_ #[72, 9] ty #[.map (some b), .string (str s)]).run Tryz.prog w = .ok (.tuple #[]) w' ∧ MapV w' b n (delT T s) V ∧ w.grownBy w' (some b) := by
 obtain ⟨D, h, h3⟩ := h
 obtain ⟨w', hrun, h1, h2⟩ := h.drop law9 Tryz.underlying72 (key9 hs) ty
 refine ⟨w', hrun, ⟨_, h1, fun y => ?_⟩, h2.grown⟩
 unfold delT
 by_cases e : y = s
 · subst e
   rw [if_pos rfl]
   exact .inl ⟨rfl, Maps.has_del_same⟩
 · rw [if_neg e]
   have hne : (Lit.string y) ≠ .string s := fun h => e (by injection h with h)
   rcases h3 y with ⟨h4, h5⟩ | ⟨h4, h5, h6⟩
   · exact .inl ⟨h4, by rw [Maps.has_del_other hne, h5]⟩
   · exact .inr ⟨h4, by rw [Maps.has_del_other hne, h5], fun d => by rw [Maps.atKey_del_other hne, h6]⟩
end Go.Proofs.YtgcbfggoddkhnaaGreatDoor
namespace Go.Proofs
open Go.Shelf
def Tryz.lays156_ren : Go.Shelf.Ren := ⟨fun | 156 => 111 | 165 => 151 | 166 => 152 | 169 => 153 | 240 => 180 | 241 => 181 | 276 => 211 | 277 => 212 | n => n, fun | 31 => 26 | 9 => 9 | 3 => 3 | 4 => 4 | 0 => 0 | 20 => 20 | 72 => 194 | 76 => 161 | 70 => 192 | 37 => 25 | 75 => 160 | 127 => 219 | 164 => 248 | 5 => 5 | 80 => 115 | n => n, fun | n => n⟩
theorem Tryz.lays156 : Go.Proofs.Lays.n156 Tryz.prog Tryz.lays156_ren := {
 mixed := by kernel_rfl
 f156 := Tryz.func111.trans (congrArg some (by kernel_rfl))
 f165 := Tryz.func151.trans (congrArg some (by kernel_rfl))
 f166 := Tryz.func152.trans (congrArg some (by kernel_rfl))
 f169 := Tryz.func153.trans (congrArg some (by kernel_rfl))
 f240 := Tryz.func180.trans (congrArg some (by kernel_rfl))
 f241 := Tryz.func181.trans (congrArg some (by kernel_rfl))
 f276 := Tryz.func211.trans (congrArg some (by kernel_rfl))
 f277 := Tryz.func212.trans (congrArg some (by kernel_rfl))
 t0 := Tryz.underlying0
 a0 := Tryz.isAgg0
 z0 := Tryz.sizeOf0
 v0 := Tryz.zeroValue0
 t3 := Tryz.underlying3
 a3 := Tryz.isAgg3
 z3 := Tryz.sizeOf3
 v3 := Tryz.zeroValue3
 t4 := Tryz.underlying4
 a4 := Tryz.isAgg4
 z4 := Tryz.sizeOf4
 v4 := Tryz.zeroValue4
 t9 := Tryz.underlying9
 a9 := Tryz.isAgg9
 z9 := Tryz.sizeOf9
 v9 := Tryz.zeroValue9
 t20 := Tryz.underlying20
 a20 := Tryz.isAgg20
 z20 := Tryz.sizeOf20
 v20 := Tryz.zeroValue20
 t31 := Tryz.underlying26
 a31 := Tryz.isAgg26
 z31 := Tryz.sizeOf26
 v31 := Tryz.zeroValue26
 t37 := Tryz.underlying25
 a37 := Tryz.isAgg25
 z37 := Tryz.sizeOf25
 v37 := Tryz.zeroValue25
 t70 := Tryz.underlying192
 a70 := Tryz.isAgg192
 z70 := Tryz.sizeOf192
 v70 := Tryz.zeroValue192
 t72 := Tryz.underlying194
 a72 := Tryz.isAgg194
 z72 := Tryz.sizeOf194
 v72 := Tryz.zeroValue194
 t75 := Tryz.underlying160
 a75 := Tryz.isAgg160
 z75 := Tryz.sizeOf160
 v75 := Tryz.zeroValue160
 t76 := Tryz.underlying161
 a76 := Tryz.isAgg161
 z76 := Tryz.sizeOf161
 v76 := Tryz.zeroValue161
 t127 := Tryz.underlying219
 a127 := Tryz.isAgg219
 z127 := Tryz.sizeOf219
 v127 := Tryz.zeroValue219
 t164 := Tryz.underlying248
 a164 := Tryz.isAgg248
 z164 := Tryz.sizeOf248
 v164 := Tryz.zeroValue248 }
theorem Tryz.Builder_Extra_156 : Builder.Extra Tryz.prog Tryz.lays156_ren := {
 sizeBuilder := by kernel_rfl
 liesBuilder := by kernel_rfl
 t5 := Tryz.underlying5
 a5 := Tryz.isAgg5
 z5 := Tryz.sizeOf5
 v5 := Tryz.zeroValue5
 infoByte := by kernel_rfl
 cellsByte := by kernel_rfl
 sizeByte := by kernel_rfl
 neB5 := by decide }
open Go.RowKit in
theorem Tryz.strings_Join (bk o c : Nat) (xs : List ByteArray) (sep : ByteArray) (w : World) (hcells : ∀ (j : Nat) x, xs[j]? = some x → w.cell? ⟨bk, o + j, none⟩ = some (.string x)) (hbk : bk < w.heap.size) (hN : xs.length ≤ 140737488355328) (hcap : xs.length ≤ c) (hlen : (Lib.join (xs.map (·.data.toList)) sep.data.toList).length ≤ 140737488355328) :
 Calls Tryz.prog 111 #[.slice (some ⟨bk, o, none⟩) xs.length c, .string sep] w fun e w' => e = .returned (.string ⟨(Lib.join (xs.map (·.data.toList)) sep.data.toList).toArray⟩) ∧ Below w.heap.size w w' := Any.strings_Join Tryz.lays156 Tryz.Builder_Extra_156 bk o c xs sep w hcells hbk hN hcap hlen
end Go.Proofs
namespace Go.Proofs.YtgcbfggoddkhnaaGreatDoor.Pa
open Go.RowKit
def NumPos (u : Nat) (w : World) (k : Nat) (a s : Value) (wr : World) : Prop :=
 ∃ (v : Nat) (r : List UInt8), v = k ∧ v ≤ 9223372036854775807 ∧ a = .int .i64 (v : Int) ∧ s = .string (str r) ∧ Lib.decDigits v ++ r = Lib.decDigits u ∧ w = wr
def NumNeg (u : Nat) (w : World) (k : Nat) (a s : Value) (wr : World) : Prop :=
 ∃ (v : Nat) (z : Int) (r : List UInt8), v = k ∧ 1 ≤ v ∧ v ≤ 9223372036854775808 ∧ z = -(v : Int) ∧ a = .int .i64 z ∧ s = .string (str r) ∧ Lib.decDigits v ++ r = Lib.decDigits u ∧ w = wr
end Go.Proofs.YtgcbfggoddkhnaaGreatDoor.Pa
namespace Go.Proofs.YtgcbfggoddkhnaaGreatDoor.Pa
open Go.RowKit
theorem StrRow.alloc {w : World} {B : Nat} {v : Value} {R : List (List UInt8)} (h : StrRow w B v R) (o : Obj) : StrRow (w.alloc o) B v R := World.ownsRow.alloc h o
set_option maxRecDepth 100000 in
theorem joinNil_any (w : World) : Calls Tryz.prog 111 #[.slice none 0 0, .string ⟨#[46]⟩] w fun e w' => e = .returned (.string (str [])) ∧ Below w.heap.size w w' := by
 go_enter Tryz.func111, Tryz.ntmps111
 go_wp2_with fail
 go_ret
 exact ⟨rfl, Below.refl _ _⟩
theorem join_any {w : World} {B : Nat} {v : Value} {R : List (List UInt8)} (h : StrRow w B v R) (hn : R.length ≤ 100000000) (hl : (Lib.join R [46]).length ≤ 140737488351232) :
   Calls Tryz.prog 111 #[v, .string ⟨#[46]⟩] w fun e w' => e = .returned (.string (str (Lib.join R [46]))) ∧ Below w.heap.size w w' := by
 have h0 : w.ownsRow B 9 1 v R.length (strCellsOf R) := h
 rcases h0.2 with ⟨hv, he⟩ | ⟨g, cap, cur, hv, hb, hh, hle, _⟩
 · have hR : R = [] := List.length_eq_zero_iff.1 he
   subst hv hR
   exact joinNil_any w
 · obtain ⟨A, c, hv2, hs⟩ := h.strs
   rw [hv] at hv2 ⊢
   injection hv2 with hA _ hc
   subst hA
   have hcells : ∀ (j : Nat) x, (R.map str)[j]? = some x → w.cell? ⟨g, 0 + j, none⟩ = some (.string x) := fun j x hx => by
    rw [List.getElem?_map] at hx
    obtain ⟨y, hy, rfl⟩ := Option.map_eq_some_iff.1 hx
    obtain ⟨b, o, hbo, _, hc2⟩ := hs (by have := (List.getElem?_eq_some_iff.1 hy).1; omega)
    injection hbo with hbo
    injection hbo with e1 e2
    subst e1 e2
    exact hc2 j y hy
   have e1 : (R.map str).map (fun x : ByteArray => x.data.toList) = R := by simp [Function.comp_def, str_list]
   have J := Tryz.strings_Join g 0 cap (R.map str) ⟨#[46]⟩ w hcells (World.ownsRow.lt h g (by rw [hv]; rfl)).2 (by simp; omega) (by simpa using hle) (by rw [e1]; show (Lib.join R [46]).length ≤ _; omega)
   rw [e1, List.length_map] at J
   exact J
def TxRel (w : World) (zs : List Int) (k : Nat) (v i : Value) (wr : World) : Prop :=
 ∃ m, m + k = zs.length ∧ i = .int .i64 (m : Int) ∧ StrRow wr w.heap.size v ((zs.take m).map Lib.itoa) ∧ Below w.heap.size w wr
set_option maxRecDepth 100000 in
theorem text_any {w : World} {A : Option Addr} {c : Nat} {zs : List Int} (he : Env w) (h : Zs w w.heap.size A zs) (hw : WideZ zs) (hn : zs.length ≤ 10000000) :
  Calls Tryz.prog 68 #[.slice A zs.length c] w (RetB w (.string (str (zText zs)))) := by
 have HE := Lib.hid he
 have HZ := Lib.hid h
 have HW := Lib.hid hw
 clear he h hw
 go_enter Tryz.func68, Tryz.ntmps68
 go_wp2_with fail
 go_loopg [3, 8] zs.length (fun k v i wr => TxRel w zs k v i wr)
 case atStart => exact ⟨0, by simp, rfl, World.ownsRow_nil _ _ _ _, Below.refl _ _⟩
 case round =>
  obtain ⟨m, hmk, hi', hown, hb⟩ := hrel
  subst hi'
  have HB := Lib.hid hb
  cases gk with
  | zero =>
   have hge : zs.length ≤ m := by omega
   rw [List.take_of_length_le hge] at hown
   have hj := join_any hown (by simp; omega) (by
    have := zText_len HW.out
    unfold zText at this
    omega)
   have HJ : Hid (Calls Tryz.prog 111 #[_, .string ⟨#[46]⟩] wr fun e w' => e = .returned (.string (str (zText zs))) ∧ Below wr.heap.size wr w') := hj
   clear hown hb hj
   go_wp2_with fail
   refine HJ.out.mono ?_
   rintro e w' ⟨rfl, hj⟩
   have HJ2 := Lib.hid hj
   clear hj HJ
   go_wp2_with fail
   go_ret
   exact ⟨rfl, HB.out.trans (HJ2.out.mono HB.out.size)⟩
  | succ j =>
   have hm : m < zs.length := by omega
   obtain ⟨z, hx⟩ : ∃ x, zs[m]? = some x := ⟨_, List.getElem?_eq_getElem hm⟩
   obtain ⟨b, o, rfl, hlt, hcells⟩ := (HZ.out.below hb) (by omega)
   have c1 := hcells m z hx
   have hmem := List.mem_of_getElem? hx
   have hzw := HW.out z hmem
   have hsz := hb.size
   have HM := Lib.hid hmk
   have HX := Lib.hid hx
   have HI := Lib.hid (itoa_any (n := z) (HE.out.on hb) hzw.1 hzw.2)
   obtain ⟨R, hR⟩ : ∃ R, R = (zs.take m).map Lib.itoa := ⟨_, rfl⟩
   rw [← hR] at hown
   have HR := Lib.hid hown
   have hlen : R.length = m := by rw [hR]; simp; omega
   have HRR := Lib.hid hR
   clear hcells hx hmk hb hown hmem hzw hR
   go_wp2_with fail
   refine HI.out.mono ?_
   rintro e w2 ⟨rfl, hb2⟩
   have HR2 := Lib.hid ((HR.out.below hb2).alloc (.cells #[.string (str (Lib.itoa z))] 9))
   have HB2 : Hid (Below w.heap.size w (w2.alloc (.cells #[.string (str (Lib.itoa z))] 9))) := (HB.out.trans (hb2.mono hsz)).alloc (by have := hb2.size; omega) _
   have hsz2 : w.heap.size ≤ (w2.alloc (.cells #[.string (str (Lib.itoa z))] 9)).heap.size := by have := hb2.size; simp; omega
   have hle : R.length + 1 ≤ 100000001 := by omega
   clear hb2 HI HR hlen
   go_wp2_with (at_builtin; refine wpList_append_one rfl _ _ rfl w.heap.size _ _ rfl HR2.out ⟨w2.heap.size, 0, none⟩ (Lib.itoa z) rfl (cell_one_new _ _ _) hle hsz2 ?_)
   intro v' w3 hr3 hb3
   have HR3 := Lib.hid hr3
   have HB3 := Lib.hid (HB2.out.trans hb3)
   clear hr3 hb3
   go_wp2_with fail
   go_roundg j
   case measure => omega
   case rel =>
    refine ⟨m + 1, by have := HM.out; omega, by go_num, ?_, HB3.out⟩
    rw [take_snoc HX.out, List.map_append, ← HRR.out]
    exact HR3.out
def RtRel (w : World) (zs : List Int) (k : Nat) (s i : Value) (wr : World) : Prop :=
 ∃ m, m + k = zs.length ∧ i = .int .i64 (m : Int) ∧ s = .string (str (zText (zs.take m))) ∧ w = wr
end Go.Proofs.YtgcbfggoddkhnaaGreatDoor.Pa
