/- Lemmas for the law: Ta, Tb, Tc, Te, Tf. -/
import Derived.Test.YtgcbfggoddkhnaaGreatDoorProg
import Derived.WalkKit
import Derived.LaidEql
import Derived.Deep.LoopGhost
import Derived.Lib.Hide
import Derived.Laws.BitsAllLaws
import Derived.Laws.AppendOwn
import Derived.Laws.AppendOwnNone
import Derived.Laws.OwnMore
import Derived.Maps.AppendAt
import Derived.Lib.AppendStr
import Derived.Laws.BytesArg
import Derived.Lib.SlBytesConst
import Derived.IntWalk
namespace Go.Proofs.YtgcbfggoddkhnaaGreatDoor.Tp
def enc (n : Nat) : List Nat := if n < 128 then [n] else (128 + n % 128) :: enc (n / 128)
termination_by n
decreasing_by omega
def val : List Nat → Nat
 | [] => 0
 | d :: ds => d % 128 + 128 * val ds
def Big (l : List Nat) : Prop := ∀ d ∈ l, 128 ≤ d ∧ d < 256
def Sml (l : List Nat) : Prop := ∀ c ∈ l, c < 256
theorem enc_small {n : Nat} (h : n < 128) : enc n = [n] := by rw [enc, if_pos h]
theorem enc_big {n : Nat} (h : 128 ≤ n) : enc n = (128 + n % 128) :: enc (n / 128) := by rw [enc, if_neg (by omega)]
theorem Big.tail {d : Nat} {l : List Nat} (h : Big (d :: l)) : Big l := fun c hc => h c (by simp [hc])
theorem Big.head {d : Nat} {l : List Nat} (h : Big (d :: l)) : 128 ≤ d ∧ d < 256 := h d (by simp)
theorem val_snoc (x : Nat) : ∀ ds : List Nat, val (ds ++ [x]) = val ds + (x % 128) * 128 ^ ds.length
 | [] => by simp [val]
 | d :: ds => by
  simp only [List.cons_append, val, List.length_cons, Nat.pow_succ]
  rw [val_snoc x ds, Nat.mul_add, ← Nat.mul_assoc (x % 128), Nat.mul_comm 128 (x % 128 * 128 ^ ds.length)]
  omega
theorem val_lt : ∀ ds : List Nat, val ds < 128 ^ ds.length
 | [] => by simp [val]
 | d :: ds => by
  have := val_lt ds
  simp only [val, List.length_cons, Nat.pow_succ]
  omega
theorem enc_of : ∀ (ds : List Nat) (x : Nat), Big ds → x < 128 → (x = 0 → ds = []) → enc (val ds + x * 128 ^ ds.length) = ds ++ [x]
 | [], x, _, hx, _ => by simp [val, enc_small hx]
 | d :: ds, x, hb, hx, h0 => by
  have hx0 : x ≠ 0 := fun h => by cases h0 h
  have ih := enc_of ds x hb.tail hx (fun h => absurd h hx0)
  have hd := hb.head
  have e1 : val (d :: ds) + x * 128 ^ (d :: ds).length = (d - 128) + 128 * (val ds + x * 128 ^ ds.length) := by
   simp only [val, List.length_cons, Nat.pow_succ]
   rw [Nat.mul_add, ← Nat.mul_assoc x, Nat.mul_comm 128 (x * 128 ^ ds.length)]
   omega
  have hp : 0 < x * 128 ^ ds.length := Nat.mul_pos (by omega) (Nat.pow_pos (by omega))
  rw [e1]
  obtain ⟨m, hm⟩ : ∃ m, m = val ds + x * 128 ^ ds.length := ⟨_, rfl⟩
  rw [← hm] at ih ⊢
  rw [enc_big (by omega), show (d - 128 + 128 * m) / 128 = m by omega, ih, show 128 + (d - 128 + 128 * m) % 128 = d by omega]
  rfl
theorem enc_split (n : Nat) : ∃ ds x, enc n = ds ++ [x] ∧ Big ds ∧ x < 128 ∧ (x = 0 → ds = []) ∧ n = val ds + x * 128 ^ ds.length := by
 induction n using Nat.strongRecOn with
 | ind n ih =>
  by_cases h : n < 128
  · exact ⟨[], n, by rw [enc_small h]; rfl, (fun c hc => by cases hc), h, fun _ => rfl, by simp [val]⟩
  · obtain ⟨ds, x, h1, h2, h3, h4, h5⟩ := ih (n / 128) (by omega)
    refine ⟨(128 + n % 128) :: ds, x, by rw [enc_big (by omega), h1]; rfl, ?_, h3, ?_, ?_⟩
    · intro c hc
      rcases List.mem_cons.1 hc with rfl | hc
      · omega
      · exact h2 c hc
    · intro hx
      have := h4 hx
      subst this
      subst hx
      simp [val] at h5
      omega
    · simp only [val, List.length_cons, Nat.pow_succ]
      have : x * (128 ^ ds.length * 128) = 128 * (x * 128 ^ ds.length) := by rw [← Nat.mul_assoc, Nat.mul_comm]
      omega
theorem enc_sml (n : Nat) : Sml (enc n) := by
 obtain ⟨ds, x, h, hb, hx, _, _⟩ := enc_split n
 intro c hc
 rw [h] at hc
 rcases List.mem_append.1 hc with hc | hc
 · exact (hb c hc).2
 · simp at hc; omega
theorem enc_pos (n : Nat) : 0 < (enc n).length := by
 obtain ⟨ds, x, h, _⟩ := enc_split n
 simp [h]
theorem split_uniq : ∀ {ds ds' : List Nat} {x x' : Nat} {r r' : List Nat}, Big ds → Big ds' → x < 128 → x' < 128 → ds ++ x :: r = ds' ++ x' :: r' → ds = ds' ∧ x = x' ∧ r = r'
 | [], [], x, x', r, r', _, _, _, _, h => by simp at h; exact ⟨rfl, h.1, h.2⟩
 | [], d :: ds, x, x', r, r', _, hb, hx, _, h => by
  simp at h
  have := hb.head
  omega
 | d :: ds, [], x, x', r, r', hb, _, _, hx, h => by
  simp at h
  have := hb.head
  omega
 | d :: ds, d' :: ds', x, x', r, r', hb, hb', hx, hx', h => by
  simp at h
  obtain ⟨h1, h2, h3⟩ := split_uniq hb.tail hb'.tail hx hx' h.2
  exact ⟨by rw [h.1, h1], h2, h3⟩
theorem enc_prefix {m n : Nat} {r r' : List Nat} (h : enc m ++ r = enc n ++ r') : m = n ∧ r = r' := by
 obtain ⟨ds, x, h1, h2, h3, _, h5⟩ := enc_split m
 obtain ⟨ds', x', h1', h2', h3', _, h5'⟩ := enc_split n
 rw [h1, h1', List.append_assoc, List.append_assoc] at h
 obtain ⟨e1, e2, e3⟩ := split_uniq h2 h2' h3 h3' h
 exact ⟨by rw [h5, h5', e1, e2], e3⟩
theorem enc_length : ∀ (k n : Nat), n < 128 ^ (k + 1) → (enc n).length ≤ k + 1
 | 0, n, h => by rw [enc_small (by simpa using h)]; simp
 | k + 1, n, h => by
  by_cases h1 : n < 128
  · rw [enc_small h1]; simp
  · rw [enc_big (by omega), List.length_cons]
    have := enc_length k (n / 128) (by rw [Nat.pow_succ] at h; omega)
    omega
theorem enc_nine {n : Nat} (h : n < 9223372036854775808) : (enc n).length ≤ 9 := enc_length 8 n (by simpa using h)
def NoNum (l : List Nat) (most : Int) : Prop := ∀ m r, l = enc m ++ r → m < 9223372036854775808 → most < (m : Int)
theorem no_nine {l : List Nat} {most : Int} (hb : Big (l.take 9)) : NoNum l most := by
 intro m r h hm
 obtain ⟨ds, x, h1, h2, h3, _, _⟩ := enc_split m
 have hlen := enc_nine hm
 rw [h1, List.length_append, List.length_singleton] at hlen
 have hx : x ∈ l.take 9 := by
  rw [h, h1, List.append_assoc, List.take_append]
  refine List.mem_append_right _ ?_
  obtain ⟨q, hq⟩ : ∃ q, 9 - ds.length = q + 1 := ⟨9 - ds.length - 1, by omega⟩
  rw [hq]
  simp
 have := hb x hx
 omega
theorem no_end {l : List Nat} {most : Int} (hb : Big l) : NoNum l most := by
 intro m r h hm
 obtain ⟨ds, x, h1, h2, h3, _, _⟩ := enc_split m
 have := hb x (by rw [h, h1]; simp)
 omega
theorem take_drop_at {l : List Nat} {i x : Nat} (h : l[i]? = some x) : l = l.take i ++ x :: l.drop (i + 1) := by
 have hi := (List.getElem?_eq_some_iff.1 h).1
 have he := (List.getElem?_eq_some_iff.1 h).2
 conv => lhs; rw [← List.take_append_drop i l]
 rw [List.drop_eq_getElem_cons hi, he]
theorem no_zero {l : List Nat} {most : Int} {i : Nat} (hb : Big (l.take i)) (h : l[i]? = some 0) (hi : 0 < i) : NoNum l most := by
 intro m r hl hm
 obtain ⟨ds, x, h1, h2, h3, h4, _⟩ := enc_split m
 have e : ds ++ x :: r = l.take i ++ 0 :: l.drop (i + 1) := by
  rw [← take_drop_at h, hl, h1, List.append_assoc]
  rfl
 have hlt := (List.getElem?_eq_some_iff.1 h).1
 obtain ⟨e1, e2, _⟩ := split_uniq h2 hb h3 (by omega) e
 have e3 := h4 e2
 rw [e3] at e1
 have hlen := congrArg List.length e1
 rw [List.length_take, List.length_nil] at hlen
 omega
theorem no_long {l r : List Nat} {most : Int} {n : Nat} (h : l = enc n ++ r) (hm : most < (n : Int)) : NoNum l most := by
 intro m r' h' _
 rw [h] at h'
 rw [← (enc_prefix h').1]
 exact hm
theorem num_hit {l : List Nat} {i x : Nat} (hb : Big (l.take i)) (h : l[i]? = some x) (hx : x < 128) (h0 : x = 0 → i = 0) : l = enc (val (l.take i) + x * 128 ^ i) ++ l.drop (i + 1) := by
 have hi := (List.getElem?_eq_some_iff.1 h).1
 have hlen : (l.take i).length = i := by simp; omega
 have e := enc_of (l.take i) x hb hx (fun hz => by rw [h0 hz]; rfl)
 rw [hlen] at e
 rw [e, List.append_assoc]
 exact take_drop_at h
theorem hit_length {l : List Nat} {i x : Nat} (hb : Big (l.take i)) (h : l[i]? = some x) (hx : x < 128) (h0 : x = 0 → i = 0) : (enc (val (l.take i) + x * 128 ^ i)).length = i + 1 := by
 have hi := (List.getElem?_eq_some_iff.1 h).1
 have hlen : (l.take i).length = i := by simp; omega
 have e := enc_of (l.take i) x hb hx (fun hz => by rw [h0 hz]; rfl)
 rw [hlen] at e
 rw [e, List.length_append, hlen]
 rfl
theorem Big.snoc {l : List Nat} {i x : Nat} (hb : Big (l.take i)) (h : l[i]? = some x) (hx : 128 ≤ x) (hx2 : x < 256) : Big (l.take (i + 1)) := by
 rw [List.take_add_one, h]
 intro c hc
 rcases List.mem_append.1 hc with hc | hc
 · exact hb c hc
 · simp at hc; omega
theorem val_take {l : List Nat} {i x : Nat} (h : l[i]? = some x) : val (l.take (i + 1)) = val (l.take i) + (x % 128) * 128 ^ i := by
 have hi := (List.getElem?_eq_some_iff.1 h).1
 have hlen : (l.take i).length = i := by simp; omega
 rw [List.take_add_one, h, Option.toList_some, val_snoc, hlen]
theorem val_take_lt (l : List Nat) (i : Nat) : val (l.take i) < 128 ^ i :=
 Nat.lt_of_lt_of_le (val_lt _) (Nat.pow_le_pow_right (by omega) (by simp; omega))
end Go.Proofs.YtgcbfggoddkhnaaGreatDoor.Tp
namespace Go.Proofs.YtgcbfggoddkhnaaGreatDoor.Tp
open Go.RowKit
structure Kp (S : Nat → Prop) (w w' : World) : Prop where
 os : w'.os = w.os
 tape : w'.tape = w.tape
 output : w'.output = w.output
 size : w.heap.size ≤ w'.heap.size
 block : ∀ k, k < w.heap.size → ¬ S k → w'.heap[k]? = w.heap[k]?
theorem Kp.refl (S : Nat → Prop) (w : World) : Kp S w w := ⟨rfl, rfl, rfl, Nat.le_refl _, fun _ _ _ => rfl⟩
theorem Kp.andThen {S T : Nat → Prop} {a b c : World} (h : Kp S a b) (k : Kp T b c) (hT : ∀ i, i < a.heap.size → T i → S i) : Kp S a c :=
 ⟨k.os.trans h.os, k.tape.trans h.tape, k.output.trans h.output, Nat.le_trans h.size k.size, fun i hi hs => (k.block i (Nat.lt_of_lt_of_le hi h.size) (fun ht => hs (hT i hi ht))).trans (h.block i hi hs)⟩
theorem Kp.more {S T : Nat → Prop} {a b : World} (h : Kp S a b) (hT : ∀ i, i < a.heap.size → S i → T i) : Kp T a b :=
 ⟨h.os, h.tape, h.output, h.size, fun i hi hs => h.block i hi (fun ht => hs (hT i hi ht))⟩
theorem Kp.alloc {S : Nat → Prop} {a w : World} (h : Kp S a w) (o : Obj) : Kp S a (w.alloc o) :=
 h.andThen (T := fun _ => False) ⟨rfl, rfl, rfl, by simp, fun k hk _ => Below.heap_alloc _ _ _ hk⟩ (fun _ _ h => h.elim)
theorem Kp.drew {S : Nat → Prop} {a w : World} (h : Kp S a w) : Kp S a w.drew := ⟨h.os, h.tape, h.output, h.size, h.block⟩
theorem Kp.setCell {S : Nat → Prop} {a w : World} (h : Kp S a w) {p : Addr} (hp : p.block < a.heap.size → S p.block) (u : Value) : Kp S a (w.setCell p u) :=
 h.andThen (T := fun i => i = p.block) ⟨rfl, rfl, rfl, by simp [World.setCell], fun k _ hk => Below.heap_setCell _ _ _ _ hk⟩ (fun _ hi h => by subst h; exact hp hi)
theorem Kp.grown {S : Nat → Prop} {a w w' : World} {row : Option Nat} (h : Kp S a w) (hg : w.grownBy w' row) (hr : ∀ k, row = some k → k < a.heap.size → S k) : Kp S a w' :=
 h.andThen (T := fun i => row = some i) ⟨hg.os, hg.tape, hg.output, hg.size, fun k hk hne => hg.block k hk (fun e => hne e.symm)⟩ (fun i hi e => hr i e hi)
theorem Kp.below {S : Nat → Prop} {B : Nat} {w w' : World} (h : Kp S w w') (hB : B ≤ w.heap.size) (hS : ∀ k, S k → B ≤ k) : Below B w w' :=
 ⟨h.os, h.tape, h.output, h.size, fun k hk => h.block k (by omega) (fun hs => by have := hS k hs; omega)⟩
theorem Kp.of_below {w w' : World} (h : Below w.heap.size w w') (S : Nat → Prop) : Kp S w w' := ⟨h.os, h.tape, h.output, h.size, fun k hk _ => h.block k hk⟩
theorem Kp.cell {S : Nat → Prop} {w w' : World} (h : Kp S w w') {p : Addr} {v : Value} (hc : w.cell? p = some v) (hp : ¬ S p.block) : w'.cell? p = some v :=
 (World.cell?_of_block (w := w) (h.block p.block (World.block_lt_of_cell? w p hc) hp)).trans hc
theorem Kp.frozen {S : Nat → Prop} {w w' : World} (h : Kp S w w') {p : Addr} (hp : ¬ S p.block) (hlt : p.block < w.heap.size) : w'.frozen? p = w.frozen? p :=
 World.frozen?_of_block (w := w) (h.block p.block hlt hp)
def cellsOf (l : List Nat) : List Value := l.map fun c : Nat => Value.int .u8 (c : Int)
theorem cellsOf_length (l : List Nat) : (cellsOf l).length = l.length := by simp [cellsOf]
theorem cellsOf_at {l : List Nat} {k c : Nat} (h : l[k]? = some c) : (cellsOf l)[k]? = some (.int .u8 (c : Int)) := by simp [cellsOf, h]
theorem cellsOf_get {l : List Nat} {k : Nat} {u : Value} (h : (cellsOf l)[k]? = some u) : ∃ c, l[k]? = some c ∧ u = .int .u8 (c : Int) := by
 simp [cellsOf] at h
 obtain ⟨c, h1, h2⟩ := h
 exact ⟨c, h1, h2.symm⟩
theorem cellsOf_one (l : List Nat) : ∀ u ∈ cellsOf l, u.oneCell' = true := by
 intro u hu
 simp [cellsOf] at hu
 obtain ⟨c, _, rfl⟩ := hu
 rfl
theorem cellsOf_append (a b : List Nat) : cellsOf (a ++ b) = cellsOf a ++ cellsOf b := by simp [cellsOf]
theorem own_kept {w w' : World} {v : Value} {n : Nat} {xs : List Value} (h : w.ownsRow 0 5 1 v n xs) (hb : ∀ j, v.ownBlock = some j → w'.heap[j]? = w.heap[j]?) : w'.ownsRow 0 5 1 v n xs := by
 refine ⟨h.1, ?_⟩
 rcases h.2 with h2 | ⟨g, cap, cur, hv, hb0, hh, r⟩
 · exact .inl h2
 · exact .inr ⟨g, cap, cur, hv, hb0, (hb g (by rw [hv]; rfl)).trans hh, r⟩
def OwnB (w : World) (v : Value) (l : List Nat) : Prop := w.ownsRow 0 5 1 v l.length (cellsOf l)
theorem OwnB.slice {w : World} {v : Value} {l : List Nat} (h : OwnB w v l) : ∃ A n c, v = .slice A n c := by
 rcases h.2 with ⟨h, _⟩ | ⟨g, cap, cur, h, _⟩
 · exact ⟨_, _, _, h⟩
 · exact ⟨_, _, _, h⟩
def PenAt (w : World) (g : Nat) (k : Option Nat) (l : List Nat) : Prop :=
 ∃ v, w.cell? ⟨g, 0, none⟩ = some v ∧ w.frozen? ⟨g, 0, none⟩ = false ∧ v.ownBlock = k ∧ OwnB w v l ∧ k ≠ some g
theorem PenAt.lt {w : World} {g : Nat} {k : Option Nat} {l : List Nat} (h : PenAt w g k l) : g < w.heap.size := by
 obtain ⟨v, hc, _⟩ := h
 exact World.block_lt_of_cell? w _ hc
theorem PenAt.row_lt {w : World} {g : Nat} {k : Option Nat} {l : List Nat} (h : PenAt w g k l) : ∀ j, k = some j → j < w.heap.size := by
 obtain ⟨v, hc, _, hv, ho, _⟩ := h
 intro j hj
 exact (ho.lt j (hv.trans hj)).2
theorem PenAt.kp {S : Nat → Prop} {w w' : World} {g : Nat} {k : Option Nat} {l : List Nat} (h : PenAt w g k l) (hk : Kp S w w') (hg : ¬ S g) (hr : ∀ j, k = some j → ¬ S j) : PenAt w' g k l := by
 have hlt := h.row_lt
 have hl := h.lt
 obtain ⟨v, hc, hf, hv, ho, hne⟩ := h
 exact ⟨v, hk.cell hc hg, (hk.frozen hg hl).trans hf, hv, own_kept ho (fun j hj => hk.block j (hlt j (hv.symm.trans hj)) (hr j (hv.symm.trans hj))), hne⟩
def Own (g : Nat) (k : Option Nat) (b : Nat) : Prop := b = g ∨ k = some b
def Wrote (w : World) (g : Nat) (k : Option Nat) (l : List Nat) (w' : World) : Prop :=
 ∃ k', PenAt w' g k' l ∧ (k' = k ∨ ∃ j, k' = some j ∧ w.heap.size ≤ j) ∧ Kp (Own g k) w w'
theorem Wrote.refl {w : World} {g : Nat} {k : Option Nat} {l : List Nat} (h : PenAt w g k l) : Wrote w g k l w := ⟨k, h, .inl rfl, Kp.refl _ _⟩
theorem Wrote.step {w w0 w1 : World} {g : Nat} {k k0 : Option Nat} {v' : Value} {l' : List Nat} (hk0 : k0 = k ∨ ∃ j, k0 = some j ∧ w.heap.size ≤ j) (hkp : Kp (Own g k) w w0) (hlt : g < w.heap.size)
   (hne : k0 ≠ some g) (hf : w1.frozen? ⟨g, 0, none⟩ = false) {u : Value} (hc : w1.cell? ⟨g, 0, none⟩ = some u) (ho : OwnB w1 v' l')
   (hg : Kp (fun b => k0 = some b) w0 w1) (hat : v'.ownBlock = k0 ∨ ∃ j, v'.ownBlock = some j ∧ w0.heap.size ≤ j) : Wrote w g k l' (w1.setCell ⟨g, 0, none⟩ v') := by
 have hg1 := World.block_lt_of_cell? w1 _ hc
 have hvg : v'.ownBlock ≠ some g := by
   rcases hat with h | ⟨j, h, hj⟩
   · rw [h]; exact hne
   · rw [h]
     intro e
     injection e with e
     have := hkp.size
     omega
 refine ⟨v'.ownBlock, ⟨v', World.cell?_setCell_same' _ _ _ (by rw [hc]; rfl), by rw [World.frozen?_setCell]; exact hf, rfl, own_kept ho (fun j hj => Below.heap_setCell _ _ _ _ (fun e => hvg (by rw [hj, e]))), hvg⟩, ?_, ?_⟩
 · rcases hat with h | ⟨j, h, hj⟩
   · rw [h]; exact hk0
   · exact .inr ⟨j, h, Nat.le_trans hkp.size hj⟩
 · refine (hkp.andThen hg (fun i hi e => ?_)).setCell (fun _ => .inl rfl) _
   rcases hk0 with h | ⟨j, h, hj⟩
   · exact .inr (by rw [← h]; exact e)
   · rw [h] at e
     injection e with e
     omega
theorem Tryz.info5 : (Tryz.prog.info? 5).map (fun i => (i.zero, i.size, i.bytes)) = some (some (.int .u8 0), 1, 1) := by kernel_rfl
theorem wpList_append_one {w0 : World} {ops : Array Oper} {rest : List Oper} {o : Oper} {a : Act} {Q : Exit → Act → World → Prop} (hgd : o.guard = none) (s x : Operand)
   (ho : o.op = .call { callee := .builtin .append, args := #[s, x], argTypes := #[25, 25] }) (v : Value) (ys : List Nat) (c : Nat) (z : Int) (hz : z = (c : Int)) (hs : a.eval s = v)
   (hown : OwnB w0 v ys) (hxe : a.eval x = .slice (some ⟨w0.heap.size, 0, none⟩) 1 1) (hn : ys.length + 1 ≤ 100000000)
   (h : ∀ v' w', OwnB w' v' (ys ++ [c]) → Kp (fun b => v.ownBlock = some b) w0 w' → (v'.ownBlock = v.ownBlock ∨ ∃ j, v'.ownBlock = some j ∧ w0.heap.size ≤ j) → wpList Tryz.prog ops Q rest (a.put o.dst v') w') :
   wpList Tryz.prog ops Q (o :: rest) a (w0.alloc (.cells #[.int .u8 z] 5)) := by
 subst hz
 obtain ⟨i0, hi, hz0, hz1, hz2⟩ := info_parts Tryz.info5
 have hown' : (w0.alloc (.cells #[.int .u8 (c : Int)] 5)).ownsRow 0 5 1 v ys.length (cellsOf ys) := own_kept hown (fun j hj => Below.heap_alloc _ _ _ (hown.lt j hj).2)
 refine wpList_append_own_at _ hgd s x 25 ho 0 5 i0 _ 1 1 Tryz.underlying25 hi hz0 hz1 hz2 rfl (by decide) v ys.length _ hs hown' _ 1 1 [.int .u8 (c : Int)] hxe rfl (cell_one_new _ _ _) (fun u hu => by simp at hu; subst hu; rfl) (by unfold maxLen; omega) (by omega) (Nat.zero_le _) ?_
 intro v' w' h1 h2 _ h3
 refine h v' w' (by unfold OwnB; rw [cellsOf_append, List.length_append]; exact h1) ?_ ?_
 · exact ((Kp.refl _ _).alloc _).grown h2 (fun j hj _ => hj)
 · rcases h3 with h3 | h3
   · exact .inl h3
   · exact .inr ⟨_, h3, by simp⟩
def NumRel (w : World) (g : Nat) (k : Option Nat) (l : List Nat) (n : Nat) (gk : Nat) (sl : Value) (wr : World) : Prop :=
 ∃ (m : Nat) (done : List Nat), sl = .int .i64 (m : Int) ∧ enc n = done ++ enc m ∧ m ≤ 4611686018427387903 ∧ (enc m).length = gk + 1 ∧ Wrote w g k (l ++ done) wr
set_option maxRecDepth 100000 in
theorem pen_number {w : World} {g : Nat} {k : Option Nat} {l : List Nat} {n : Nat} (hp : PenAt w g k l) (hn : n ≤ 4611686018427387903) (hl : l.length ≤ 90000000) :
  Calls Tryz.prog 51 #[.pointer (some ⟨g, 0, none⟩), .int .i64 (n : Int)] w fun e w' => e = .returned (.bool true) ∧ Wrote w g k (l ++ enc n) w' := by
 have HP := Lib.hid hp
 clear hp
 go_enter Tryz.func51, Tryz.ntmps51
 go_wp2_with fail
 go_loopg [1] ((enc n).length - 1) (fun gk sl wr => NumRel w g k l n gk sl wr)
 case atStart => exact ⟨n, [], rfl, by simp, hn, by have := enc_pos n; omega, by rw [List.append_nil]; exact Wrote.refl HP.out⟩
 case round =>
  obtain ⟨m, done, hsl, hE, hm, hgk, hw⟩ := hrel
  subst hsl
  have hdone : done.length ≤ 9 := by
   have h1 := congrArg List.length hE
   have h2 := enc_nine (n := n) (by omega)
   rw [List.length_append] at h1
   omega
  obtain ⟨k0, ⟨v, hc, hf, hv, ho, hne⟩, hk0, hkp⟩ := hw
  have HE := Lib.hid hE
  have HO := Lib.hid ho
  have HK := Lib.hid hk0
  subst hv
  clear hE ho hk0
  cases gk with
  | zero =>
   have hm2 : m < 128 := by
    by_cases h : m < 128
    · exact h
    · rw [enc_big (by omega), List.length_cons] at hgk
      have := enc_pos (m / 128)
      omega
   clear hgk
   go_wp2_with (at_builtin; refine wpList_append_one rfl _ _ rfl v (l ++ done) m _ rfl rfl HO.out rfl (by simp; omega) ?_)
   intro v' w1 h1 h2 h3
   have hc1 := h2.cell hc hne
   have hf1 := (h2.frozen hne (World.block_lt_of_cell? _ _ hc)).trans hf
   have HW := Lib.hid (Wrote.step HK.out hkp HP.out.lt hne hf1 hc1 h1 h2 h3)
   obtain ⟨A', n', c', rfl⟩ := h1.slice
   clear h1 h2 h3 hkp hc hf HO HK hne
   go_wp2_with fail
   go_ret
   exact ⟨rfl, by rw [HE.out, enc_small hm2]; exact HW.out⟩
  | succ j =>
   have hm2 : 128 ≤ m := by
    by_cases h : m < 128
    · rw [enc_small h] at hgk
      simp at hgk
    · omega
   have HG := Lib.hid hgk
   clear hgk
   go_wp2_with (at_builtin; refine wpList_append_one rfl _ _ rfl v (l ++ done) (128 + m % 128) _ (by omega) rfl HO.out rfl (by simp; omega) ?_)
   intro v' w1 h1 h2 h3
   have hc1 := h2.cell hc hne
   have hf1 := (h2.frozen hne (World.block_lt_of_cell? _ _ hc)).trans hf
   have HW := Lib.hid (Wrote.step HK.out hkp HP.out.lt hne hf1 hc1 h1 h2 h3)
   obtain ⟨A', n', c', rfl⟩ := h1.slice
   clear h1 h2 h3 hkp hc hf HO HK hne
   go_wp2_with fail
   go_roundg j
   case measure => omega
   case rel =>
    refine ⟨m / 128, done ++ [128 + m % 128], by go_num, ?_, by omega, ?_, HW.out⟩
    · rw [HE.out, enc_big hm2, List.append_assoc]; rfl
    · have := HG.out
      rw [enc_big hm2, List.length_cons] at this
      omega
end Go.Proofs.YtgcbfggoddkhnaaGreatDoor.Tp
namespace Go.Proofs.YtgcbfggoddkhnaaGreatDoor.Tp
open Go.RowKit
def Bts (w : World) (B : Nat) (A : Option Addr) (l : List Nat) : Prop :=
 0 < l.length → ∃ b o, A = some ⟨b, o, none⟩ ∧ b < B ∧ ∀ k c : Nat, l[k]? = some c → w.cell? ⟨b, o + k, none⟩ = some (.int .u8 (c : Int))
set_option maxRecDepth 100000 in
theorem Bts.below {w w' : World} {B : Nat} {A : Option Addr} {l : List Nat} (h : Bts w B A l) (hb : Below B w w') : Bts w' B A l := fun hp => by
 obtain ⟨b, o, hA, hlt, hc⟩ := h hp
 exact ⟨b, o, hA, hlt, fun k c hk => (hb.cell (p := ⟨b, o + k, none⟩) hlt).trans (hc k c hk)⟩
set_option maxRecDepth 100000 in
theorem Bts.more {w : World} {B B' : Nat} {A : Option Addr} {l : List Nat} (h : Bts w B A l) (hB : B ≤ B') : Bts w B' A l := fun hp => by
 obtain ⟨b, o, hA, hlt, hc⟩ := h hp
 exact ⟨b, o, hA, by omega, hc⟩
set_option maxRecDepth 100000 in
theorem Bts.none {w : World} {B : Nat} {l : List Nat} (h : Bts w B none l) : l = [] := by
 cases l with
 | nil => rfl
 | cons y r => obtain ⟨b, o', hA, _⟩ := h (by simp); cases hA
def str (l : List Nat) : ByteArray := strOfNums (l.map fun c : Nat => (c : Int))
def bys (s : ByteArray) : List Nat := s.data.toList.map UInt8.toNat
set_option maxRecDepth 100000 in
theorem str_append (a b : List Nat) : str a ++ str b = str (a ++ b) := by
 apply ByteArray.ext
 simp [str, strOfNums, ByteArray.data_append]
set_option maxRecDepth 100000 in
theorem str_inj {a b : List Nat} (ha : Sml a) (hb : Sml b) (h : str a = str b) : a = b := by
 have h1 := congrArg (fun s : ByteArray => s.data.toList) h
 simp only [str, strOfNums_data, List.map_map] at h1
 have h2 := congrArg (List.map UInt8.toNat) h1
 rw [List.map_map, List.map_map] at h2
 have key : ∀ {l : List Nat}, Sml l → l.map (UInt8.toNat ∘ (fun n => UInt8.ofNat n.toNat) ∘ fun c : Nat => (c : Int)) = l := by
  intro l hl
  conv => rhs; rw [← List.map_id l]
  refine List.map_congr_left fun c hc => ?_
  have := hl c hc
  simp [UInt8.toNat_ofNat', Nat.mod_eq_of_lt this]
 rwa [key ha, key hb] at h2
set_option maxRecDepth 100000 in
theorem str_size (l : List Nat) : (str l).size = l.length := by simp [str, strOfNums_size]
set_option maxRecDepth 100000 in
theorem bys_length (s : ByteArray) : (bys s).length = s.size := by simp [bys]
set_option maxRecDepth 100000 in
theorem bys_sml (s : ByteArray) : Sml (bys s) := by
 intro c hc
 simp [bys] at hc
 obtain ⟨u, _, rfl⟩ := hc
 exact u.toNat_lt
set_option maxRecDepth 100000 in
theorem str_bys (s : ByteArray) : str (bys s) = s := by
 apply ByteArray.ext
 apply Array.ext'
 simp only [str, bys, strOfNums_data, List.map_map]
 conv => rhs; rw [← List.map_id s.data.toList]
 refine List.map_congr_left fun c _ => ?_
 simp
set_option maxRecDepth 100000 in
theorem bys_str {l : List Nat} (h : Sml l) : bys (str l) = l := str_inj (bys_sml _) h (str_bys _)
set_option maxRecDepth 100000 in
theorem strCells_bys (s : ByteArray) : Lib.strCells s = cellsOf (bys s) := by simp [Lib.strCells, cellsOf, bys, List.map_map, Function.comp_def]
set_option maxRecDepth 100000 in
theorem conv_str {w : World} {B : Nat} {A : Option Addr} {l : List Nat} (h : Bts w B A l) (c : Nat) : (convert 25 9 (.slice A l.length c)).run Tryz.prog w = .ok (.string (str l)) w := by
 cases A with
 | none =>
  have hl0 := h.none
  subst hl0
  exact run_convert_bytes_nil w 25 5 Tryz.underlying25 Tryz.underlying5 _ c 9 Tryz.underlying9
 | some a =>
  rcases Nat.eq_zero_or_pos l.length with hl | hl
  · have hl0 : l = [] := List.eq_nil_of_length_eq_zero hl
    subst hl0
    obtain ⟨b, o, spot⟩ := a
    rw [run_convert_bytes_string w 25 9 5 _ _ _ Tryz.underlying25 Tryz.underlying5 Tryz.underlying9]
    exact run_bytesToString w _ 0 c [] rfl
  · obtain ⟨b, o, hA, _, hc⟩ := h hl
    injection hA with hA
    subst hA
    refine run_convert_bytes_arg w 25 5 Tryz.underlying25 Tryz.underlying5 b o l.length c (l.map fun c : Nat => (c : Int)) (by simp) (fun i hi => ?_) 9 Tryz.underlying9
    rw [hc i _ (List.getElem?_eq_getElem hi)]
    simp [List.getD_eq_getElem?_getD, hi]
set_option maxRecDepth 100000 in
theorem add_str {a b : ByteArray} (W : World) (ha : a.size ≤ 100000000) (hb : b.size ≤ 100000000) : (Op.stringOp .add a b).run Tryz.prog W = .ok (.string (a ++ b)) W :=
 run_string_add_sum W _ _ (by omega)
set_option maxRecDepth 100000 in
theorem OwnB.bts {w : World} {A : Option Addr} {n c : Nat} {l : List Nat} (h : OwnB w (.slice A n c) l) : n = l.length ∧ Bts w w.heap.size A l ∧ (A = none → c = 0) := by
 have h0 : w.ownsRow 0 5 1 (.slice A n c) l.length (cellsOf l) := h
 rcases h.2 with ⟨h1, he⟩ | ⟨g, cap, cur, h1, hb, hh, hr⟩
 · injection h1 with e1 e2 e3
   subst e1 e2 e3
   refine ⟨he.symm, fun hp => by omega, fun _ => rfl⟩
 · injection h1 with e1 e2 e3
   subst e1 e2 e3
   refine ⟨rfl, fun _ => ⟨g, 0, rfl, (h0.lt g rfl).2, fun k c hk => ?_⟩, fun h => by cases h⟩
   have := h0.cells (g := g) rfl k _ (cellsOf_at hk)
   rw [Go.WideShapes.add_plain] at this
   exact this
set_option maxRecDepth 100000 in
theorem Bts.cells {w : World} {B : Nat} {a : Addr} {l : List Nat} (h : Bts w B (some a) l) : ∀ j u, (cellsOf l)[j]? = some u → w.cell? (a.add j) = some u := by
 intro j u hu
 obtain ⟨c, hc, rfl⟩ := cellsOf_get hu
 have hp : 0 < l.length := by
  have := (List.getElem?_eq_some_iff.1 hc).1
  omega
 obtain ⟨b, o, hA, _, hx⟩ := h hp
 injection hA with hA
 subst hA
 rw [Go.WideShapes.add_plain]
 exact hx j c hc
def RetCopy (w : World) (l : List Nat) (e : Ending) (w' : World) : Prop := ∃ A c, e = .returned (.slice A l.length c) ∧ Bts w' w'.heap.size A l ∧ (∀ a : Addr, A = some a → ∃ b, a = ⟨b, 0, none⟩ ∧ w.heap.size ≤ b ∧ b < w'.heap.size) ∧ (A = none → c = 0) ∧ l.length ≤ c ∧ c ≤ maxLen ∧ Below w.heap.size w w'
set_option maxRecDepth 100000 in
theorem clone_any {w : World} {A : Option Addr} {c : Nat} {l : List Nat} (hl : Bts w w.heap.size A l) (hc : A = none → c = 0) (hn : l.length ≤ 90000000) :
  Calls Tryz.prog 57 #[.slice A l.length c] w (RetCopy w l) := by
 obtain ⟨i0, hi, hz0, hz1, hz2⟩ := info_parts Tryz.info5
 cases A with
 | none =>
  have hl0 := hl.none
  subst hl0
  have hc0 := hc rfl
  subst hc0
  clear hc
  have hq : ∀ w : World, (binOp .eql 25 (.slice none 0 0) (.slice none 0 0)).run Tryz.prog w = .ok (.bool true) w := fun _ => rfl
  go_enter Tryz.func57, Tryz.ntmps57
  go_wp2_with fail
  go_ret
  exact ⟨none, 0, rfl, fun h => absurd h (by simp), (fun _ h => by cases h), fun _ => rfl, by simp, by simp, Below.refl _ _⟩
 | some a =>
  have HL := Lib.hid hl
  clear hl hc
  have hq : ∀ w : World, (binOp .eql 25 (.slice (some a) l.length c) (.slice none 0 0)).run Tryz.prog w = .ok (.bool false) w := fun _ => rfl
  go_enter Tryz.func57, Tryz.ntmps57
  go_wp2_with (first
    | (at_builtin; refine wpList_append_own _ rfl _ _ 25 rfl w.heap.size 5 i0 _ 1 1 Tryz.underlying25 hi hz0 hz1 hz2 rfl (by decide) _ 0 [] rfl (World.ownsRow_lit (base := w.heap.size) w #[] 0 (Nat.le_refl _) (by unfold maxLen; omega) rfl) a l.length c (cellsOf l) rfl (by rw [cellsOf_length, Nat.mul_one]) (HL.out.below ((Below.refl _ _).alloc (Nat.le_refl _) _)).cells (cellsOf_one l) (by unfold maxLen; omega) (by omega) (by simp) ?_))
  intro v' w1 hown hgrow _
  have hb1 : Below w.heap.size w w1 := ((Below.refl _ _).alloc (Nat.le_refl _) _).grown hgrow (by simp) (fun k hk => by simp [Value.ownBlock] at hk; omega)
  have HO := Lib.hid hown
  clear hown hgrow
  go_wp2_with fail
  go_ret
  have h0 := HO.out
  rcases h0.2 with ⟨rfl, he⟩ | ⟨g, cap, cur, rfl, hb, hh, hnc, hcm, _⟩
  · have hl0 : l = [] := List.eq_nil_of_length_eq_zero he
    subst hl0
    exact ⟨none, 0, rfl, fun h => absurd h (by simp), (fun _ h => by cases h), fun _ => rfl, by simp, by simp, hb1⟩
  · refine ⟨some ⟨g, 0, none⟩, cap, rfl, fun _ => ⟨g, 0, rfl, (h0.lt g rfl).2, fun k c hk => ?_⟩, fun a ha => ?_, (fun h => by cases h), hnc, hcm, hb1⟩
    · have := h0.cells (g := g) rfl k _ (cellsOf_at hk)
      rw [Go.WideShapes.add_plain] at this
      exact this
    · injection ha with ha
      subst ha
      exact ⟨g, rfl, hb, (h0.lt g rfl).2⟩
set_option maxRecDepth 100000 in
theorem pen_bytes {w : World} {g : Nat} {k : Option Nat} {l : List Nat} (hp : PenAt w g k l) (hn : l.length ≤ 90000000) : Calls Tryz.prog 13 #[.pointer (some ⟨g, 0, none⟩)] w (RetCopy w l) := by
 obtain ⟨v, hc, hf, hv, ho, hne⟩ := hp
 obtain ⟨A, n, c, rfl⟩ := ho.slice
 obtain ⟨rfl, hb, hA⟩ := ho.bts
 have H := Lib.hid (clone_any (c := c) hb hA hn)
 clear ho hb hA hv hne hf
 go_enter Tryz.func13, Tryz.ntmps13
 go_wp2_with fail
 refine H.out.mono ?_
 rintro e w' ⟨A', c', rfl, h1, h2, h3, h4, h5, h6⟩
 have HR : Hid (RetCopy w l (.returned (.slice A' l.length c')) w') := ⟨A', c', rfl, h1, h2, h3, h4, h5, h6⟩
 clear h1 h2 h3 h4 h5 h6
 go_wp2_with fail
 go_ret
 exact HR.out
set_option maxRecDepth 100000 in
theorem pen_refuse (w : World) (g : Nat) {n : Int} (hn : n < 0 ∨ 4611686018427387903 < n) : Calls Tryz.prog 51 #[.pointer (some ⟨g, 0, none⟩), .int .i64 n] w fun e w' => e = .returned (.bool false) ∧ w = w' := by
 rcases hn with hn | hn
 · go_enter Tryz.func51, Tryz.ntmps51
   go_wp2_with fail
   go_ret
   exact ⟨rfl, rfl⟩
 · have h0 : ¬ n < 0 := by omega
   go_enter Tryz.func51, Tryz.ntmps51
   go_wp2_with fail
   go_ret
   exact ⟨rfl, rfl⟩
set_option maxRecDepth 100000 in
theorem wpList_append_str {w : World} {ops : Array Oper} {rest : List Oper} {o : Oper} {a : Act} {Q : Exit → Act → World → Prop} (hgd : o.guard = none) (sl x : Operand)
  (ho : o.op = .call { callee := .builtin .append, args := #[sl, x], argTypes := #[25, 9] }) (v : Value) (ys : List Nat) (s : ByteArray) (hs : a.eval sl = v)
  (hown : OwnB w v ys) (hxe : a.eval x = .string s) (hn : ys.length + s.size ≤ 100000000)
  (h : ∀ v' w', OwnB w' v' (ys ++ bys s) → Kp (fun b => v.ownBlock = some b) w w' → (v'.ownBlock = v.ownBlock ∨ ∃ j, v'.ownBlock = some j ∧ w.heap.size ≤ j) → wpList Tryz.prog ops Q rest (a.put o.dst v') w') :
  wpList Tryz.prog ops Q (o :: rest) a w := by
 obtain ⟨i0, hi, hz0, hz1, hz2⟩ := info_parts Tryz.info5
 refine wpList_plain hgd fun K hK => ?_
 have hown0 : w.ownsRow 0 5 1 v ys.length (cellsOf ys) := hown
 obtain ⟨v', w', hr, h2, h3, h4⟩ := Lib.run_append_own_string (P := Tryz.prog) w 0 25 9 o.type 5 i0 Tryz.underlying25 Tryz.underlying9 hi hz0 hz1 hz2 v ys.length _ hown0 s (by unfold maxLen; omega) (by omega) (Nat.zero_le _)
 have hat : v'.ownBlock = v.ownBlock ∨ ∃ j, v'.ownBlock = some j ∧ w.heap.size ≤ j := by
  rcases hown0.2 with ⟨rfl, hn0⟩ | ⟨g, cap, cur, rfl, hbg, hg, hnc, hcm, hcs, htake⟩
  · by_cases hm : s.size = 0
    · rw [h4.2 ⟨rfl, hm⟩]; exact .inl rfl
    · have e := run_append_nil_string (P := Tryz.prog) w 25 9 o.type 5 i0 (.int .u8 0) Tryz.underlying25 Tryz.underlying9 hi hz0 s (by omega) (by omega) (by rw [hz2]; omega)
      rw [hr] at e
      injection e with e1 e2
      exact .inr ⟨w.heap.size, by rw [e1]; rfl, Nat.le_refl _⟩
  · have hcs' : cur.size = cap := by simpa using hcs
    by_cases hroom : ys.length + s.size ≤ cap
    · have e := Lib.run_append_room_string (P := Tryz.prog) w 25 9 o.type 5 i0 Tryz.underlying25 Tryz.underlying9 hi hz1 g ys.length cap cur hg s hroom (by omega)
      rw [hr] at e
      injection e with e1 e2
      exact .inl (by rw [e1]; rfl)
    · have e := Lib.run_append_grow_string (P := Tryz.prog) w 25 9 o.type 5 i0 (.int .u8 0) Tryz.underlying25 Tryz.underlying9 hi hz0 ⟨g, 0, none⟩ ys.length cap _ (by rw [hz1]; exact hown0.1) (hown0.cells (g := g) rfl) s (by omega) (by omega) (by rw [hz2]; exact growslice_fits (by omega) (by omega))
      rw [hr] at e
      injection e with e1 e2
      exact .inr ⟨w.heap.size, by rw [e1]; rfl, Nat.le_refl _⟩
 unfold Oper.wp execOp
 simp only [ho, resolve, invoke, builtin, Sem.run_bind, Sem.run_pure, Result.andThen_ok, List.map_toArray, List.map_cons, List.map_nil, hs, hxe, hr]
 refine hK _ _ (h v' w' ?_ ((Kp.refl _ _).grown h3 (fun j hj _ => hj)) hat)
 unfold OwnB
 rw [cellsOf_append, List.length_append, bys_length, ← strCells_bys]
 exact h2
def txt (s : ByteArray) : List Nat := enc s.size ++ bys s
end Go.Proofs.YtgcbfggoddkhnaaGreatDoor.Tp
namespace Go.Proofs.YtgcbfggoddkhnaaGreatDoor.Tp
open Go.RowKit
set_option maxRecDepth 100000 in
theorem new_new (s : ByteArray) (n : Int) (w : World) (hn : (n == 0) = false) :
  Calls Tryz.prog 128 #[.string s, .int .i64 n] w fun e w' => e = .returned (.iface 236 (.pointer (some ⟨w.heap.size, 0, none⟩))) ∧ w.alloc (.cells #[.string s, .int .i64 n, .nilIface] 238) = w' := by
 have H : Hid (Calls Tryz.prog 171 #[.string s, .int .i64 n, .nilIface] w fun e w' => e = .returned (.iface 236 (.pointer (some ⟨w.heap.size, 0, none⟩))) ∧ w.alloc (.cells #[.string s, .int .i64 n, .nilIface] 238) = w') := by
  go_enter Tryz.func171, Tryz.ntmps171
  go_wp2
  go_ret
  exact ⟨rfl, rfl⟩
 go_enter Tryz.func128, Tryz.ntmps128
 go_wp2_with (go_at_call 171; refine H.out.mono ?_; rintro e w' ⟨rfl, rfl⟩)
 go_ret
 exact ⟨rfl, rfl⟩
set_option maxRecDepth 100000 in
theorem i64_or_nat (a b : Nat) (ha : a < 9223372036854775808) (hb : b < 9223372036854775808) : bits .or .i64 (a : Int) (b : Int) = ((a ||| b : Nat) : Int) := by
 have hx : a ||| b < 2 ^ 63 := Nat.or_lt_two_pow (by omega) (by omega)
 show IntKind.i64.wrap ((BitVec.ofInt 64 (a : Int) ||| BitVec.ofInt 64 (b : Int)).toNat : Int) = _
 rw [BitVec.toNat_or, ofInt_u64 a (by omega), ofInt_u64 b (by omega)]
 exact IntWalk.i64_in _ (by omega)
set_option maxRecDepth 100000 in
theorem shl_or {x m v : Nat} (hm : m ≤ 8) (hv : v < 128 ^ m) :
   ∃ t v2 : Nat, wrap64 ((x : Int) % 128 * 2 ^ (m * 7)) = (t : Int) ∧ bits .or .i64 (v : Int) (t : Int) = (v2 : Int) ∧ v2 = v + (x % 128) * 128 ^ m ∧ v2 < 9223372036854775808 := by
 have hp : (128 : Nat) ^ m ≤ 128 ^ 8 := Nat.pow_le_pow_right (by omega) hm
 have h7 : (2 : Nat) ^ (m * 7) = 128 ^ m := by rw [Nat.mul_comm, Nat.pow_mul]
 have h7i : (2 : Int) ^ (m * 7) = ((128 ^ m : Nat) : Int) := by rw [← h7]; simp
 obtain ⟨P, hP⟩ : ∃ P : Nat, P = 128 ^ m := ⟨_, rfl⟩
 obtain ⟨y, hy⟩ : ∃ y : Nat, y = x % 128 := ⟨_, rfl⟩
 have hy2 : y ≤ 127 := by omega
 rw [← hP] at hp hv h7 h7i
 have hle : y * P ≤ 127 * P := Nat.mul_le_mul_right _ hy2
 have hor : v ||| y * P = v + y * P := by
   have h := Nat.two_pow_add_eq_or_of_lt (i := m * 7) (b := v) (by omega) y
   rw [h7, Nat.mul_comm P y] at h
   rw [Nat.or_comm, ← h, Nat.add_comm]
 refine ⟨y * P, v + y * P, ?_, ?_, by rw [hy, hP], by omega⟩
 · rw [h7i, show (x : Int) % 128 = (y : Int) by omega, ← Int.natCast_mul]
   exact IntWalk.wrap64_in _ (by omega)
 · rw [i64_or_nat v (y * P) (by omega) (by omega), hor]
def NumPost (l : List Nat) (most : Int) (w : World) (e : Ending) (w' : World) : Prop :=
 w = w' ∧ ((∃ n r, l = enc n ++ r ∧ (n : Int) ≤ most ∧ n < 9223372036854775808 ∧ e = .returned (.tuple #[.int .i64 (n : Int), .int .i64 ((enc n).length : Int), .int .i64 0])) ∨
  (NoNum l most ∧ ∃ q : Int, (q == 0) = false ∧ e = .returned (.tuple #[.int .i64 0, .int .i64 0, .int .i64 q])))
def ReadRel (w : World) (l : List Nat) (gk : Nat) (n i : Value) (wr : World) : Prop :=
 ∃ m : Nat, m + gk = l.length ∧ m ≤ 9 ∧ Big (l.take m) ∧ n = .int .i64 ((val (l.take m) : Nat) : Int) ∧ i = .int .i64 (m : Int) ∧ w = wr
set_option maxRecDepth 100000 in
theorem number_any {w : World} {A : Option Addr} {c : Nat} {l : List Nat} {most : Int} (hl : Bts w w.heap.size A l) (hs : Sml l) (hn : l.length ≤ 90000000) :
  Calls Tryz.prog 127 #[.slice A l.length c, .int .i64 most] w (NumPost l most w) := by
 have HL := Lib.hid hl
 have HS := Lib.hid hs
 clear hl hs
 go_enter Tryz.func127, Tryz.ntmps127
 go_wp2_with fail
 go_loopg [4, 11] l.length (fun gk n i wr => ReadRel w l gk n i wr)
 case atStart => exact ⟨0, by simp, by omega, (fun c hc => by cases hc), rfl, rfl, rfl⟩
 case round =>
  obtain ⟨m, hmk, hm9, hb, hi, hr, hw⟩ := hrel
  subst hi hr hw
  have HB := Lib.hid hb
  clear hb
  cases gk with
  | zero =>
   have hge : l.length ≤ m := by omega
   go_wp2_with fail
   go_ret3
   refine ⟨rfl, .inr ⟨no_end ?_, 11, rfl, rfl⟩⟩
   have := HB.out
   rwa [List.take_of_length_le hge] at this
  | succ j =>
   have hm : m < l.length := by omega
   obtain ⟨x, hx⟩ : ∃ x, l[m]? = some x := ⟨_, List.getElem?_eq_getElem hm⟩
   obtain ⟨b, o, rfl, hlt, hcells⟩ := HL.out (by omega)
   have cx := hcells m x hx
   have hx8 := HS.out x (List.mem_of_getElem? hx)
   have HX := Lib.hid hx
   have HM := Lib.hid hmk
   clear hx hmk hcells
   by_cases h9 : m = 9
   · subst h9
     go_wp2_with fail
     go_ret3
     exact ⟨rfl, .inr ⟨no_nine HB.out, 10, rfl, rfl⟩⟩
   · have h9' : ¬ ((m : Int) = 9) := by omega
     have hvl := val_take_lt l m
     obtain ⟨v, hv⟩ : ∃ v, v = val (l.take m) := ⟨_, rfl⟩
     rw [← hv] at hvl ⊢
     obtain ⟨t, v2, e1, e2, h1, h2⟩ := shl_or (x := x) (by omega) hvl
     have HV := Lib.hid hv
     have H1 := Lib.hid h1
     clear hv h1 hvl
     by_cases hbig : 128 ≤ x
     · go_wp2_with fail
       go_roundg j
       case measure => omega
       case rel =>
         refine ⟨m + 1, by have := HM.out; omega, by omega, HB.out.snoc HX.out hbig hx8, ?_, by go_num, rfl⟩
         rw [val_take HX.out, ← HV.out, ← H1.out]
     · have hx128 : x < 128 := by omega
       have hmod : x % 128 = x := Nat.mod_eq_of_lt hx128
       by_cases h0 : x = 0 ∧ 0 < m
       · obtain ⟨hx0, hm0⟩ := h0
         subst hx0
         go_wp2_with fail
         go_ret3
         exact ⟨rfl, .inr ⟨no_zero HB.out HX.out hm0, 10, rfl, rfl⟩⟩
       · have h0' : x = 0 → m = 0 := fun h => by
           have : ¬ 0 < m := fun h2 => h0 ⟨h, h2⟩
           omega
         have hE := num_hit HB.out HX.out hx128 h0'
         have hLn := hit_length HB.out HX.out hx128 h0'
         have H3 := H1.out
         rw [hmod] at H3
         rw [← HV.out, ← H3] at hE hLn
         have HE := Lib.hid hE
         have HLn := Lib.hid hLn
         clear hE hLn H3 hmod
         have hd : ¬ (x = 0) ∨ (x = 0 ∧ m = 0) := by
           by_cases h : x = 0
           · exact .inr ⟨h, h0' h⟩
           · exact .inl h
         by_cases hlong : most < (v2 : Int)
         · rcases hd with hd | hd
           · go_wp2_with fail
             go_ret3
             exact ⟨rfl, .inr ⟨no_long HE.out hlong, 13, rfl, rfl⟩⟩
           · obtain ⟨hx0, hm0⟩ := hd
             subst hx0 hm0
             have hv0 : v = 0 := HV.out
             subst hv0
             have h20 : v2 = 0 := H1.out
             subst h20
             have e6 : bits .or .i64 0 0 = 0 := by decide
             have cx0 : w.cell? ⟨b, o, none⟩ = some (.int .u8 0) := cx
             clear e1 e2 cx
             go_wp2_with fail
             go_ret3
             exact ⟨rfl, .inr ⟨no_long HE.out hlong, 13, rfl, rfl⟩⟩
         · rcases hd with hd | hd
           · go_wp2_with fail
             go_ret3
             exact ⟨rfl, .inl ⟨v2, _, HE.out, by omega, h2, by rw [HLn.out]; rfl⟩⟩
           · obtain ⟨hx0, hm0⟩ := hd
             subst hx0 hm0
             have hv0 : v = 0 := HV.out
             subst hv0
             have h20 : v2 = 0 := H1.out
             subst h20
             have e6 : bits .or .i64 0 0 = 0 := by decide
             have cx0 : w.cell? ⟨b, o, none⟩ = some (.int .u8 0) := cx
             clear e1 e2 cx
             go_wp2_with fail
             go_ret3
             exact ⟨rfl, .inl ⟨0, _, HE.out, by omega, h2, by rw [HLn.out]; rfl⟩⟩
end Go.Proofs.YtgcbfggoddkhnaaGreatDoor.Tp
namespace Go.Proofs.YtgcbfggoddkhnaaGreatDoor.Tp
open Go.RowKit
def Row (w : World) (k : Option Nat) (A : Option Addr) (c : Nat) (l : List Nat) : Prop :=
 (A = none ∧ c = 0 ∧ k = none ∧ l = []) ∨
  ∃ b o, A = some ⟨b, o, none⟩ ∧ k = some b ∧ b < w.heap.size ∧ l.length ≤ c ∧ c ≤ maxLen ∧ ∀ i d : Nat, l[i]? = some d → w.cell? ⟨b, o + i, none⟩ = some (.int .u8 (d : Int))
set_option maxRecDepth 100000 in
theorem Row.bts {w : World} {k : Option Nat} {A : Option Addr} {c : Nat} {l : List Nat} (h : Row w k A c l) : Bts w w.heap.size A l := by
 rcases h with ⟨_, _, _, rfl⟩ | ⟨b, o, hA, _, hb, _, _, hc⟩
 · intro h; simp at h
 · intro _; exact ⟨b, o, hA, hb, hc⟩
set_option maxRecDepth 100000 in
theorem Row.kp {S : Nat → Prop} {w w' : World} {k : Option Nat} {A : Option Addr} {c : Nat} {l : List Nat} (h : Row w k A c l) (hk : Kp S w w') (hr : ∀ j, k = some j → ¬ S j) : Row w' k A c l := by
 rcases h with h | ⟨b, o, hA, hkb, hb, h1, h2, hc⟩
 · exact .inl h
 · exact .inr ⟨b, o, hA, hkb, Nat.lt_of_lt_of_le hb hk.size, h1, h2, fun i d hi => hk.cell (hc i d hi) (hr b hkb)⟩
def TapeAt (w : World) (g : Nat) (k : Option Nat) (l : List Nat) (E : Value) : Prop :=
 ∃ A c, w.cell? ⟨g, 0, none⟩ = some (.slice A l.length c) ∧ w.cell? ⟨g, 1, none⟩ = some E ∧ w.frozen? ⟨g, 0, none⟩ = false ∧ w.frozen? ⟨g, 1, none⟩ = false ∧ Row w k A c l ∧ k ≠ some g
set_option maxRecDepth 100000 in
theorem TapeAt.lt {w : World} {g : Nat} {k : Option Nat} {l : List Nat} {E : Value} (h : TapeAt w g k l E) : g < w.heap.size := by
 obtain ⟨A, c, h1, _⟩ := h
 exact World.block_lt_of_cell? w _ h1
set_option maxRecDepth 100000 in
theorem TapeAt.row_lt {w : World} {g : Nat} {k : Option Nat} {l : List Nat} {E : Value} (h : TapeAt w g k l E) : ∀ j, k = some j → j < w.heap.size := by
 obtain ⟨A, c, _, _, _, _, hr, _⟩ := h
 rcases hr with ⟨_, _, hk, _⟩ | ⟨b, o, _, hk, hb, _⟩
 · intro j hj; rw [hk] at hj; cases hj
 · intro j hj; rw [hk] at hj; injection hj with hj; omega
set_option maxRecDepth 100000 in
theorem TapeAt.kp {S : Nat → Prop} {w w' : World} {g : Nat} {k : Option Nat} {l : List Nat} {E : Value} (h : TapeAt w g k l E) (hk : Kp S w w') (hg : ¬ S g) (hr : ∀ j, k = some j → ¬ S j) : TapeAt w' g k l E := by
 have hlt := h.lt
 obtain ⟨A, c, h1, h2, h3, h4, h5, h6⟩ := h
 exact ⟨A, c, hk.cell h1 hg, hk.cell h2 hg, (hk.frozen hg hlt).trans h3, (hk.frozen hg hlt).trans h4, h5.kp hk hr, h6⟩
set_option maxRecDepth 100000 in
theorem TapeAt.setErr {w : World} {g : Nat} {k : Option Nat} {l : List Nat} {E : Value} (h : TapeAt w g k l E) (E' : Value) : TapeAt (w.setCell ⟨g, 1, none⟩ E') g k l E' := by
 have hw : Kp (fun b => b = g) w (w.setCell ⟨g, 1, none⟩ E') := Kp.setCell (S := fun b => b = g) (Kp.refl _ _) (fun _ => rfl) _
 obtain ⟨A, c, h1, h2, h3, h4, h5, h6⟩ := h
 refine ⟨A, c, ?_, World.cell?_setCell_same' _ _ _ (by rw [h2]; rfl), by rw [World.frozen?_setCell]; exact h3, by rw [World.frozen?_setCell]; exact h4, h5.kp hw (fun j hj e => by subst e; exact h6 hj), h6⟩
 rw [World.cell?_setCell_other _ _ _ _ (by simp)]
 exact h1
set_option maxRecDepth 100000 in
theorem TapeAt.setLeft {w : World} {g : Nat} {k : Option Nat} {l l' : List Nat} {E : Value} (h : TapeAt w g k l E) {A' : Option Addr} {c' n : Nat} (hr : Row w k A' c' l') (hn : n = l'.length) : TapeAt (w.setCell ⟨g, 0, none⟩ (.slice A' n c')) g k l' E := by
 subst hn
 have hw : Kp (fun b => b = g) w (w.setCell ⟨g, 0, none⟩ (.slice A' l'.length c')) := Kp.setCell (S := fun b => b = g) (Kp.refl _ _) (fun _ => rfl) _
 obtain ⟨A, c, h1, h2, h3, h4, h5, h6⟩ := h
 refine ⟨A', c', World.cell?_setCell_same' _ _ _ (by rw [h1]; rfl), ?_, by rw [World.frozen?_setCell]; exact h3, by rw [World.frozen?_setCell]; exact h4, hr.kp hw (fun j hj e => by subst e; exact h6 hj), h6⟩
 rw [World.cell?_setCell_other _ _ _ _ (by simp)]
 exact h2
set_option maxRecDepth 100000 in
theorem TapeAt.alloc {w : World} {g : Nat} {k : Option Nat} {l : List Nat} {E : Value} (h : TapeAt w g k l E) (o : Obj) : TapeAt (w.alloc o) g k l E :=
 h.kp (S := fun _ => False) ((Kp.refl _ w).alloc _) (fun h => h) (fun _ _ h => h)
def RetTape (w : World) (l : List Nat) (e : Ending) (w' : World) : Prop :=
 ∃ g k, e = .returned (.pointer (some ⟨g, 0, none⟩)) ∧ TapeAt w' g k l .nilIface ∧ w.heap.size ≤ g ∧ (∀ j, k = some j → w.heap.size ≤ j) ∧ Below w.heap.size w w'
set_option maxRecDepth 100000 in
theorem tape_new {w : World} {A : Option Addr} {c : Nat} {l : List Nat} (hl : Bts w w.heap.size A l) (hc : A = none → c = 0) (hn : l.length ≤ 90000000) :
   Calls Tryz.prog 89 #[.slice A l.length c] w (RetTape w l) := by
 have H := Lib.hid (clone_any hl hc hn)
 clear hl hc
 go_enter Tryz.func89, Tryz.ntmps89
 go_wp2_with fail
 refine H.out.mono ?_
 rintro e w' ⟨A', c', rfl, h1, h2, h3, h4, h5, h6⟩
 have HB := Lib.hid h6
 have HR : Hid (∃ k, Row w' k A' c' l ∧ ∀ j, k = some j → w.heap.size ≤ j) := by
   cases A' with
   | none => exact ⟨none, .inl ⟨rfl, h3 rfl, rfl, h1.none⟩, fun j hj => by cases hj⟩
   | some a =>
    obtain ⟨b, rfl, hb1, hb2⟩ := h2 _ rfl
    refine ⟨some b, .inr ⟨b, 0, rfl, rfl, hb2, h4, h5, fun i d hi => ?_⟩, fun j hj => by injection hj with hj; rw [← hj]; exact hb1⟩
    obtain ⟨b', o', hA, hb', hc'⟩ := h1 (by have := (List.getElem?_eq_some_iff.1 hi).1; omega)
    injection hA with hA
    injection hA with e1 e2 e3
    subst e1 e2
    exact hc' i d hi
 clear h1 h2 h3 h4 h5 h6
 go_wp2_with fail
 go_ret
 obtain ⟨k, hr, hk⟩ := HR.out
 have hw := (Kp.refl (fun _ => False) w').alloc (.cells #[.slice A' l.length c', .nilIface] 166)
 refine ⟨w'.heap.size, k, rfl, ⟨A', c', by simp, by simp, by simp, by simp, hr.kp hw (fun _ _ h => h), ?_⟩, HB.out.size, hk, HB.out.alloc HB.out.size _⟩
 intro h
 rcases hr with ⟨_, _, hk2, _⟩ | ⟨b, o, _, hk2, hb, _⟩
 · rw [hk2] at h; cases h
 · rw [hk2] at h; injection h with h; omega
set_option maxRecDepth 100000 in
theorem tape_err {w : World} {g : Nat} {k : Option Nat} {l : List Nat} {E : Value} (h : TapeAt w g k l E) : Calls Tryz.prog 126 #[.pointer (some ⟨g, 0, none⟩)] w fun e w' => e = .returned E ∧ w = w' := by
 obtain ⟨A, c, h1, h2, h3, h4, h5, h6⟩ := h
 clear h1 h3 h4 h5 h6
 go_enter Tryz.func126, Tryz.ntmps126
 go_wp2_with fail
 go_ret
 exact ⟨rfl, rfl⟩
set_option maxRecDepth 100000 in
theorem tape_number_fault {w : World} {g : Nat} {k : Option Nat} {l : List Nat} {T : TypeId} {x : Value} {most : Int} (h : TapeAt w g k l (.iface T x)) :
  Calls Tryz.prog 90 #[.pointer (some ⟨g, 0, none⟩), .int .i64 most] w fun e w' => e = .returned (.int .i64 0) ∧ w = w' := by
 have H := Lib.hid (tape_err h)
 clear h
 go_enter Tryz.func90, Tryz.ntmps90
 go_wp2_with (go_at_call 126; refine H.out.mono ?_; rintro e w' ⟨rfl, rfl⟩)
 go_ret
 exact ⟨rfl, rfl⟩
set_option maxRecDepth 100000 in
theorem Tryz.size5 : ∀ w, (Go.sizeOf 5).run Tryz.prog w = .ok 1 w := fun _ => by kernel_rfl
set_option maxRecDepth 100000 in
theorem Tryz.elem25 : Tryz.prog.elem 25 = 5 := by kernel_rfl
set_option maxRecDepth 100000 in
theorem Tryz.under25 : Tryz.prog.underlying 25 = some (.slice (Tryz.prog.elem 25)) := by kernel_rfl
set_option maxRecDepth 100000 in
theorem slice_to (b o n r c : Nat) (hc : n + r ≤ c) (W : World) : (Instr.slice 25 (.slice (some ⟨b, o, none⟩) (n + r) c) none (some (.int .i64 (n : Int))) none).run Tryz.prog W = .ok (.slice (some ⟨b, o, none⟩) n c) W := by
 rw [run_slice_h W 25 _ _ _ Tryz.under25 .i64 _ (by omega) (by omega), Tryz.elem25, Tryz.size5]
 simp [Result.andThen, sliced, Addr.add]
set_option maxRecDepth 100000 in
theorem slice_from (b o n r c : Nat) (hc : n + r ≤ c) : ∃ o', (0 < r → o' = o + n) ∧ ∀ W : World, (Instr.slice 25 (.slice (some ⟨b, o, none⟩) (n + r) c) (some (.int .i64 (n : Int))) none none).run Tryz.prog W = .ok (.slice (some ⟨b, o', none⟩) r (c - n)) W := by
 by_cases hne : c = n
 · refine ⟨o, fun h => by omega, fun W => ?_⟩
   rw [run_slice_l W 25 _ _ _ Tryz.under25 .i64 _ (by omega) (by omega), Tryz.elem25, Tryz.size5]
   have hr : r = 0 := by omega
   subst hne hr
   simp [Result.andThen, sliced]
 · refine ⟨o + n, fun _ => rfl, fun W => ?_⟩
   rw [run_slice_l W 25 _ _ _ Tryz.under25 .i64 _ (by omega) (by omega), Tryz.elem25, Tryz.size5]
   by_cases h0 : n = 0
   · subst h0
     simp [Result.andThen, sliced, Addr.add, hne]
   · simp [Result.andThen, sliced, Addr.add, hne, h0]
def TNum (w : World) (g : Nat) (k : Option Nat) (l : List Nat) (most : Int) (e : Ending) (w' : World) : Prop :=
 Kp (fun b => b = g) w w' ∧ ((∃ n r, l = enc n ++ r ∧ (n : Int) ≤ most ∧ n < 9223372036854775808 ∧ e = .returned (.int .i64 (n : Int)) ∧ TapeAt w' g k r .nilIface) ∨
  (NoNum l most ∧ e = .returned (.int .i64 0) ∧ ∃ T x, TapeAt w' g k l (.iface T x)))
set_option maxRecDepth 100000 in
theorem Row.rest {w : World} {k : Option Nat} {b o o' c : Nat} {p r : List Nat} (h : Row w k (some ⟨b, o, none⟩) c (p ++ r)) (ho : 0 < r.length → o' = o + p.length) : Row w k (some ⟨b, o', none⟩) (c - p.length) r := by
 rcases h with ⟨h, _⟩ | ⟨b', o1, hA, hk, hb, h1, h2, hc⟩
 · cases h
 · injection hA with hA
   injection hA with e1 e2
   subst e1 e2
   rw [List.length_append] at h1
   refine .inr ⟨b, o', rfl, hk, hb, by omega, by omega, fun i d hi => ?_⟩
   have hlt := (List.getElem?_eq_some_iff.1 hi).1
   rw [ho (by omega), Nat.add_assoc]
   exact hc _ d (by rw [List.getElem?_append_right (by omega), Nat.add_sub_cancel_left]; exact hi)
set_option maxRecDepth 100000 in
theorem tape_number {w : World} {g : Nat} {k : Option Nat} {l : List Nat} {most : Int} (h : TapeAt w g k l .nilIface) (hs : Sml l) (hn : l.length ≤ 90000000) :
   Calls Tryz.prog 90 #[.pointer (some ⟨g, 0, none⟩), .int .i64 most] w (TNum w g k l most) := by
 have HT := Lib.hid h
 have H20 := Lib.hid (tape_err h)
 obtain ⟨A, c, h1, h2, h3, h4, h5, h6⟩ := h
 have H21 := Lib.hid (number_any (c := c) (most := most) h5.bts hs hn)
 have HR := Lib.hid h5
 have HG := Lib.hid h6
 clear h5 h6
 obtain ⟨len, hlen⟩ : ∃ len, len = l.length := ⟨_, rfl⟩
 rw [← hlen] at h1 H21
 have HLen := Lib.hid hlen
 clear hlen
 go_enter Tryz.func90, Tryz.ntmps90
 go_wp2_with (go_at_call 126; refine H20.out.mono ?_; rintro e w' ⟨rfl, rfl⟩)
 refine H21.out.mono ?_
 rintro e w1 ⟨rfl, ⟨n, r, hl, hle, hlt, rfl⟩ | ⟨hno, q, hq, rfl⟩⟩
 · obtain ⟨p, hp⟩ : ∃ p, p = enc n := ⟨_, rfl⟩
   rw [← hp] at hl ⊢
   have hpos := enc_pos n
   rw [← hp] at hpos
   subst hl
   have hlen := HLen.out
   rw [List.length_append] at hlen
   subst hlen
   cases A with
   | none =>
    rcases HR.out with ⟨_, _, _, h⟩ | ⟨b, o, h, _⟩
    · simp at h; rw [h.1] at hpos; simp at hpos
    · cases h
   | some a =>
    rcases HR.out with ⟨h, _⟩ | ⟨b, o, hA, hk, hb, hlc, hcm, _⟩
    · cases h
    · injection hA with hA
      subst hA
      rw [List.length_append] at hlc
      obtain ⟨o', ho', hsl⟩ := slice_from b o p.length r.length c hlc
      have HO := Lib.hid ho'
      have HP := Lib.hid hp
      have HLe := Lib.hid hle
      clear ho' hp hle hk
      go_wp2_with fail
      go_ret
      have hw : Kp (fun b => b = g) w (w.setCell ⟨g, 0, none⟩ (.slice (some ⟨b, o', none⟩) r.length (c - p.length))) := Kp.setCell (S := fun b => b = g) (Kp.refl _ _) (fun _ => rfl) _
      exact ⟨hw, .inl ⟨n, r, by rw [HP.out], HLe.out, hlt, rfl, HT.out.setLeft (HR.out.rest HO.out) rfl⟩⟩
 · have hq2 : ¬ q = 0 := by simpa using hq
   have HN := Lib.hid hno
   have H22 := Lib.hid (fun W => new_new ⟨#[116, 97, 112, 101]⟩ q W hq)
   have hglt := HT.out.lt
   clear hno hq h1 h3 HR
   go_wp2_with (go_at_call 128; refine (H22.out _).mono ?_; rintro e w' ⟨rfl, rfl⟩)
   go_ret
   exact ⟨(Kp.setCell (S := fun b => b = g) (Kp.refl _ _) (fun _ => rfl) _).alloc _, .inr ⟨HN.out, rfl, 236, _, (HT.out.setErr _).alloc _⟩⟩
end Go.Proofs.YtgcbfggoddkhnaaGreatDoor.Tp
