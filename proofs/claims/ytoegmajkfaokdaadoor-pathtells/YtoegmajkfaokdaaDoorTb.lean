/- Pens in memory; (*Pen).Number writes a number's bytes. -/
import Derived.Test.YtoegmajkfaokdaaDoorTa
import Derived.WalkKit
import Derived.LaidEql
import Derived.Deep.LoopGhost
import Derived.Lib.Hide
import Derived.Laws.BitsAllLaws
import Derived.Laws.AppendOwn
import Derived.Laws.AppendOwnNone
import Derived.Laws.OwnMore
import Derived.Maps.AppendAt
import Derived.Lib.AppendStr
namespace Go.Proofs.YtoegmajkfaokdaaDoor.Tp
open Go.RowKit

/-- Of the blocks that were there only those in S may have turned. -/
structure Kp (S : Nat → Prop) (w w' : World) : Prop where
  os : w'.os = w.os
  tape : w'.tape = w.tape
  output : w'.output = w.output
  size : w.heap.size ≤ w'.heap.size
  block : ∀ k, k < w.heap.size → ¬ S k → w'.heap[k]? = w.heap[k]?

theorem Kp.refl (S : Nat → Prop) (w : World) : Kp S w w := ⟨rfl, rfl, rfl, Nat.le_refl _, fun _ _ _ => rfl⟩
theorem Kp.andThen {S T : Nat → Prop} {a b c : World} (h : Kp S a b) (k : Kp T b c) (hT : ∀ i, i < a.heap.size → T i → S i) : Kp S a c :=
  ⟨k.os.trans h.os, k.tape.trans h.tape, k.output.trans h.output, Nat.le_trans h.size k.size, fun i hi hs => (k.block i (Nat.lt_of_lt_of_le hi h.size) (fun ht => hs (hT i hi ht))).trans (h.block i hi hs)⟩
theorem Kp.more {S T : Nat → Prop} {a b : World} (h : Kp S a b) (hT : ∀ i, i < a.heap.size → S i → T i) : Kp T a b :=
  ⟨h.os, h.tape, h.output, h.size, fun i hi hs => h.block i hi (fun ht => hs (hT i hi ht))⟩
theorem Kp.alloc {S : Nat → Prop} {a w : World} (h : Kp S a w) (o : Obj) : Kp S a (w.alloc o) :=
  h.andThen (T := fun _ => False) ⟨rfl, rfl, rfl, by simp, fun k hk _ => Below.heap_alloc _ _ _ hk⟩ (fun _ _ h => h.elim)
theorem Kp.drew {S : Nat → Prop} {a w : World} (h : Kp S a w) : Kp S a w.drew := ⟨h.os, h.tape, h.output, h.size, h.block⟩
theorem Kp.setCell {S : Nat → Prop} {a w : World} (h : Kp S a w) {p : Addr} (hp : p.block < a.heap.size → S p.block) (u : Value) : Kp S a (w.setCell p u) :=
  h.andThen (T := fun i => i = p.block) ⟨rfl, rfl, rfl, by simp [World.setCell], fun k _ hk => Below.heap_setCell _ _ _ _ hk⟩ (fun _ hi h => by subst h; exact hp hi)
theorem Kp.grown {S : Nat → Prop} {a w w' : World} {row : Option Nat} (h : Kp S a w) (hg : w.grownBy w' row) (hr : ∀ k, row = some k → k < a.heap.size → S k) : Kp S a w' :=
  h.andThen (T := fun i => row = some i) ⟨hg.os, hg.tape, hg.output, hg.size, fun k hk hne => hg.block k hk (fun e => hne e.symm)⟩ (fun i hi e => hr i e hi)
theorem Kp.below {S : Nat → Prop} {B : Nat} {w w' : World} (h : Kp S w w') (hB : B ≤ w.heap.size) (hS : ∀ k, S k → B ≤ k) : Below B w w' :=
  ⟨h.os, h.tape, h.output, h.size, fun k hk => h.block k (by omega) (fun hs => by have := hS k hs; omega)⟩
theorem Kp.of_below {w w' : World} (h : Below w.heap.size w w') (S : Nat → Prop) : Kp S w w' := ⟨h.os, h.tape, h.output, h.size, fun k hk _ => h.block k hk⟩
theorem Kp.cell {S : Nat → Prop} {w w' : World} (h : Kp S w w') {p : Addr} {v : Value} (hc : w.cell? p = some v) (hp : ¬ S p.block) : w'.cell? p = some v :=
  (World.cell?_of_block (w := w) (h.block p.block (World.block_lt_of_cell? w p hc) hp)).trans hc
theorem Kp.frozen {S : Nat → Prop} {w w' : World} (h : Kp S w w') {p : Addr} (hp : ¬ S p.block) (hlt : p.block < w.heap.size) : w'.frozen? p = w.frozen? p :=
  World.frozen?_of_block (w := w) (h.block p.block hlt hp)

def cellsOf (l : List Nat) : List Value := l.map fun c : Nat => Value.int .u8 (c : Int)
theorem cellsOf_length (l : List Nat) : (cellsOf l).length = l.length := by simp [cellsOf]
theorem cellsOf_at {l : List Nat} {k c : Nat} (h : l[k]? = some c) : (cellsOf l)[k]? = some (.int .u8 (c : Int)) := by simp [cellsOf, h]
theorem cellsOf_get {l : List Nat} {k : Nat} {u : Value} (h : (cellsOf l)[k]? = some u) : ∃ c, l[k]? = some c ∧ u = .int .u8 (c : Int) := by
  simp [cellsOf] at h
  obtain ⟨c, h1, h2⟩ := h
  exact ⟨c, h1, h2.symm⟩
theorem cellsOf_one (l : List Nat) : ∀ u ∈ cellsOf l, u.oneCell' = true := by
  intro u hu
  simp [cellsOf] at hu
  obtain ⟨c, _, rfl⟩ := hu
  rfl
theorem cellsOf_append (a b : List Nat) : cellsOf (a ++ b) = cellsOf a ++ cellsOf b := by simp [cellsOf]

theorem own_kept {w w' : World} {v : Value} {n : Nat} {xs : List Value} (h : w.ownsRow 0 5 1 v n xs) (hb : ∀ j, v.ownBlock = some j → w'.heap[j]? = w.heap[j]?) : w'.ownsRow 0 5 1 v n xs := by
  refine ⟨h.1, ?_⟩
  rcases h.2 with h2 | ⟨g, cap, cur, hv, hb0, hh, r⟩
  · exact .inl h2
  · exact .inr ⟨g, cap, cur, hv, hb0, (hb g (by rw [hv]; rfl)).trans hh, r⟩

/-- A row of bytes of its own. -/
def OwnB (w : World) (v : Value) (l : List Nat) : Prop := w.ownsRow 0 5 1 v l.length (cellsOf l)

theorem OwnB.slice {w : World} {v : Value} {l : List Nat} (h : OwnB w v l) : ∃ A n c, v = .slice A n c := by
  rcases h.2 with ⟨h, _⟩ | ⟨g, cap, cur, h, _⟩
  · exact ⟨_, _, _, h⟩
  · exact ⟨_, _, _, h⟩

/-- A pen in block g, its bytes in block k. -/
def PenAt (w : World) (g : Nat) (k : Option Nat) (l : List Nat) : Prop :=
  ∃ v, w.cell? ⟨g, 0, none⟩ = some v ∧ w.frozen? ⟨g, 0, none⟩ = false ∧ v.ownBlock = k ∧ OwnB w v l ∧ k ≠ some g

theorem PenAt.lt {w : World} {g : Nat} {k : Option Nat} {l : List Nat} (h : PenAt w g k l) : g < w.heap.size := by
  obtain ⟨v, hc, _⟩ := h
  exact World.block_lt_of_cell? w _ hc
theorem PenAt.row_lt {w : World} {g : Nat} {k : Option Nat} {l : List Nat} (h : PenAt w g k l) : ∀ j, k = some j → j < w.heap.size := by
  obtain ⟨v, hc, _, hv, ho, _⟩ := h
  intro j hj
  exact (ho.lt j (hv.trans hj)).2
theorem PenAt.kp {S : Nat → Prop} {w w' : World} {g : Nat} {k : Option Nat} {l : List Nat} (h : PenAt w g k l) (hk : Kp S w w') (hg : ¬ S g) (hr : ∀ j, k = some j → ¬ S j) : PenAt w' g k l := by
  have hlt := h.row_lt
  have hl := h.lt
  obtain ⟨v, hc, hf, hv, ho, hne⟩ := h
  exact ⟨v, hk.cell hc hg, (hk.frozen hg hl).trans hf, hv, own_kept ho (fun j hj => hk.block j (hlt j (hv.symm.trans hj)) (hr j (hv.symm.trans hj))), hne⟩

/-- A pen's own blocks. -/
def Own (g : Nat) (k : Option Nat) (b : Nat) : Prop := b = g ∨ k = some b

/-- The pen in g has now written l; only its own blocks have turned. -/
def Wrote (w : World) (g : Nat) (k : Option Nat) (l : List Nat) (w' : World) : Prop :=
  ∃ k', PenAt w' g k' l ∧ (k' = k ∨ ∃ j, k' = some j ∧ w.heap.size ≤ j) ∧ Kp (Own g k) w w'

theorem Wrote.refl {w : World} {g : Nat} {k : Option Nat} {l : List Nat} (h : PenAt w g k l) : Wrote w g k l w := ⟨k, h, .inl rfl, Kp.refl _ _⟩

/-- One store behind an append: a step from a pen as it was. -/
theorem Wrote.step {w w0 w1 : World} {g : Nat} {k k0 : Option Nat} {v' : Value} {l' : List Nat} (hk0 : k0 = k ∨ ∃ j, k0 = some j ∧ w.heap.size ≤ j) (hkp : Kp (Own g k) w w0) (hlt : g < w.heap.size)
    (hne : k0 ≠ some g) (hf : w1.frozen? ⟨g, 0, none⟩ = false) {u : Value} (hc : w1.cell? ⟨g, 0, none⟩ = some u) (ho : OwnB w1 v' l')
    (hg : Kp (fun b => k0 = some b) w0 w1) (hat : v'.ownBlock = k0 ∨ ∃ j, v'.ownBlock = some j ∧ w0.heap.size ≤ j) : Wrote w g k l' (w1.setCell ⟨g, 0, none⟩ v') := by
  have hg1 := World.block_lt_of_cell? w1 _ hc
  have hvg : v'.ownBlock ≠ some g := by
    rcases hat with h | ⟨j, h, hj⟩
    · rw [h]; exact hne
    · rw [h]
      intro e
      injection e with e
      have := hkp.size
      omega
  refine ⟨v'.ownBlock, ⟨v', World.cell?_setCell_same' _ _ _ (by rw [hc]; rfl), by rw [World.frozen?_setCell]; exact hf, rfl, own_kept ho (fun j hj => Below.heap_setCell _ _ _ _ (fun e => hvg (by rw [hj, e]))), hvg⟩, ?_, ?_⟩
  · rcases hat with h | ⟨j, h, hj⟩
    · rw [h]; exact hk0
    · exact .inr ⟨j, h, Nat.le_trans hkp.size hj⟩
  · refine (hkp.andThen hg (fun i hi e => ?_)).setCell (fun _ => .inl rfl) _
    rcases hk0 with h | ⟨j, h, hj⟩
    · exact .inr (by rw [← h]; exact e)
    · rw [h] at e
      injection e with e
      omega

theorem Tryd.info5 : (Tryd.prog.info? 5).map (fun i => (i.zero, i.size, i.bytes)) = some (some (.int .u8 0), 1, 1) := by kernel_rfl

/-- append(out, c), out a row of bytes of the call's own. -/
theorem wpList_append_one {w0 : World} {ops : Array Oper} {rest : List Oper} {o : Oper} {a : Act} {Q : Exit → Act → World → Prop} (hgd : o.guard = none) (s x : Operand)
    (ho : o.op = .call { callee := .builtin .append, args := #[s, x], argTypes := #[33, 33] }) (v : Value) (ys : List Nat) (c : Nat) (z : Int) (hz : z = (c : Int)) (hs : a.eval s = v)
    (hown : OwnB w0 v ys) (hxe : a.eval x = .slice (some ⟨w0.heap.size, 0, none⟩) 1 1) (hn : ys.length + 1 ≤ 1000000)
    (h : ∀ v' w', OwnB w' v' (ys ++ [c]) → Kp (fun b => v.ownBlock = some b) w0 w' → (v'.ownBlock = v.ownBlock ∨ ∃ j, v'.ownBlock = some j ∧ w0.heap.size ≤ j) → wpList Tryd.prog ops Q rest (a.put o.dst v') w') :
    wpList Tryd.prog ops Q (o :: rest) a (w0.alloc (.cells #[.int .u8 z] 5)) := by
  subst hz
  obtain ⟨i0, hi, hz0, hz1, hz2⟩ := info_parts Tryd.info5
  have hown' : (w0.alloc (.cells #[.int .u8 (c : Int)] 5)).ownsRow 0 5 1 v ys.length (cellsOf ys) := own_kept hown (fun j hj => Below.heap_alloc _ _ _ (hown.lt j hj).2)
  refine wpList_append_own_at _ hgd s x 33 ho 0 5 i0 _ 1 1 Tryd.underlying33 hi hz0 hz1 hz2 rfl (by decide) v ys.length _ hs hown' _ 1 1 [.int .u8 (c : Int)] hxe rfl (cell_one_new _ _ _) (fun u hu => by simp at hu; subst hu; rfl) (by unfold maxLen; omega) (by omega) (Nat.zero_le _) ?_
  intro v' w' h1 h2 _ h3
  refine h v' w' (by unfold OwnB; rw [cellsOf_append, List.length_append]; exact h1) ?_ ?_
  · exact ((Kp.refl _ _).alloc _).grown h2 (fun j hj _ => hj)
  · rcases h3 with h3 | h3
    · exact .inl h3
    · exact .inr ⟨_, h3, by simp⟩

def NumRel (w : World) (g : Nat) (k : Option Nat) (l : List Nat) (n : Nat) (gk : Nat) (sl : Value) (wr : World) : Prop :=
  ∃ (m : Nat) (done : List Nat), sl = .int .i64 (m : Int) ∧ enc n = done ++ enc m ∧ m ≤ 4611686018427387903 ∧ (enc m).length = gk + 1 ∧ Wrote w g k (l ++ done) wr

set_option maxRecDepth 100000 in
theorem pen_number {w : World} {g : Nat} {k : Option Nat} {l : List Nat} {n : Nat} (hp : PenAt w g k l) (hn : n ≤ 4611686018427387903) (hl : l.length ≤ 900000) :
    Calls Tryd.prog 39 #[.pointer (some ⟨g, 0, none⟩), .int .i64 (n : Int)] w fun e w' => e = .returned (.bool true) ∧ Wrote w g k (l ++ enc n) w' := by
  have HP := Lib.hid hp
  clear hp
  go_enter Tryd.func39, Tryd.ntmps39
  go_wp2_with fail
  go_loopg [1] ((enc n).length - 1) (fun gk sl wr => NumRel w g k l n gk sl wr)
  case atStart => exact ⟨n, [], rfl, by simp, hn, by have := enc_pos n; omega, by rw [List.append_nil]; exact Wrote.refl HP.out⟩
  case round =>
    obtain ⟨m, done, hsl, hE, hm, hgk, hw⟩ := hrel
    subst hsl
    have hdone : done.length ≤ 9 := by
      have h1 := congrArg List.length hE
      have h2 := enc_nine (n := n) (by omega)
      rw [List.length_append] at h1
      omega
    obtain ⟨k0, ⟨v, hc, hf, hv, ho, hne⟩, hk0, hkp⟩ := hw
    have HE := Lib.hid hE
    have HO := Lib.hid ho
    have HK := Lib.hid hk0
    subst hv
    clear hE ho hk0
    cases gk with
    | zero =>
      have hm2 : m < 128 := by
        by_cases h : m < 128
        · exact h
        · rw [enc_big (by omega), List.length_cons] at hgk
          have := enc_pos (m / 128)
          omega
      clear hgk
      go_wp2_with (at_builtin; refine wpList_append_one rfl _ _ rfl v (l ++ done) m _ rfl rfl HO.out rfl (by simp; omega) ?_)
      intro v' w1 h1 h2 h3
      have hc1 := h2.cell hc hne
      have hf1 := (h2.frozen hne (World.block_lt_of_cell? _ _ hc)).trans hf
      have HW := Lib.hid (Wrote.step HK.out hkp HP.out.lt hne hf1 hc1 h1 h2 h3)
      obtain ⟨A', n', c', rfl⟩ := h1.slice
      clear h1 h2 h3 hkp hc hf HO HK hne
      go_wp2_with fail
      go_ret
      exact ⟨rfl, by rw [HE.out, enc_small hm2]; exact HW.out⟩
    | succ j =>
      have hm2 : 128 ≤ m := by
        by_cases h : m < 128
        · rw [enc_small h] at hgk
          simp at hgk
        · omega
      have HG := Lib.hid hgk
      clear hgk
      go_wp2_with (at_builtin; refine wpList_append_one rfl _ _ rfl v (l ++ done) (128 + m % 128) _ (by omega) rfl HO.out rfl (by simp; omega) ?_)
      intro v' w1 h1 h2 h3
      have hc1 := h2.cell hc hne
      have hf1 := (h2.frozen hne (World.block_lt_of_cell? _ _ hc)).trans hf
      have HW := Lib.hid (Wrote.step HK.out hkp HP.out.lt hne hf1 hc1 h1 h2 h3)
      obtain ⟨A', n', c', rfl⟩ := h1.slice
      clear h1 h2 h3 hkp hc hf HO HK hne
      go_wp2_with fail
      go_roundg j
      case measure => omega
      case rel =>
        refine ⟨m / 128, done ++ [128 + m % 128], by go_num, ?_, by omega, ?_, HW.out⟩
        · rw [HE.out, enc_big hm2, List.append_assoc]; rfl
        · have := HG.out
          rw [enc_big hm2, List.length_cons] at this
          omega
end Go.Proofs.YtoegmajkfaokdaaDoor.Tp
