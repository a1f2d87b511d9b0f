/- The reference's Eight, Of and Chain. -/
import Derived.Test.YtgjccgdnhccndaaD
import Derived.Laws.AppendOwn
import Derived.Laws.AppendOwnNone
import Derived.Laws.OwnMore
namespace Go.Proofs.Ytgjccgdnhccndaa
open Go.RowKit

def cellsOf (l : List Nat) : List Value := l.map fun c : Nat => Value.int .u8 (c : Int)
theorem cellsOf_length (l : List Nat) : (cellsOf l).length = l.length := by simp [cellsOf]
theorem cellsOf_at {l : List Nat} {k c : Nat} (h : l[k]? = some c) : (cellsOf l)[k]? = some (.int .u8 (c : Int)) := by simp [cellsOf, h]
theorem cellsOf_get {l : List Nat} {k : Nat} {u : Value} (h : (cellsOf l)[k]? = some u) : ∃ c, l[k]? = some c ∧ u = .int .u8 (c : Int) := by
  simp [cellsOf] at h
  obtain ⟨c, h1, h2⟩ := h
  exact ⟨c, h1, h2.symm⟩
theorem cellsOf_one (l : List Nat) : ∀ u ∈ cellsOf l, u.oneCell' = true := by
  intro u hu
  simp [cellsOf] at hu
  obtain ⟨c, _, rfl⟩ := hu
  rfl
theorem cellsOf_append (a b : List Nat) : cellsOf (a ++ b) = cellsOf a ++ cellsOf b := by simp [cellsOf]

theorem Bts.cells {w : World} {B : Nat} {a : Addr} {l : List Nat} (h : Bts w B (some a) l) : ∀ j u, (cellsOf l)[j]? = some u → w.cell? (a.add j) = some u := by
  intro j u hu
  obtain ⟨c, hc, rfl⟩ := cellsOf_get hu
  have hp : 0 < l.length := by
    have := (List.getElem?_eq_some_iff.1 hc).1
    omega
  obtain ⟨b, o, hA, _, hx⟩ := h hp
  injection hA with hA
  subst hA
  rw [Go.WideShapes.add_plain]
  exact hx j c hc

/-- A row of bytes of its own, from block B on. -/
def Row (w : World) (B : Nat) (v : Value) (l : List Nat) : Prop := w.ownsRow B 5 1 v l.length (cellsOf l)

theorem Row.bts {w : World} {B : Nat} {v : Value} {l : List Nat} (h : Row w B v l) : ∃ A c, v = .slice A l.length c ∧ Bts w w.heap.size A l ∧ (A = none → c = 0) := by
  have h0 : w.ownsRow B 5 1 v l.length (cellsOf l) := h
  rcases h0.2 with ⟨rfl, he⟩ | ⟨g, cap, cur, rfl, hb, hh, hr⟩
  · have hl : l = [] := List.eq_nil_of_length_eq_zero he
    subst hl
    exact ⟨none, 0, rfl, fun h => absurd h (by simp), fun _ => rfl⟩
  · refine ⟨_, cap, rfl, fun _ => ⟨g, 0, rfl, (h0.lt g rfl).2, fun k c hk => ?_⟩, fun h => by cases h⟩
    have := h0.cells (g := g) rfl k _ (cellsOf_at hk)
    rw [Go.WideShapes.add_plain] at this
    exact this
theorem Row.below {w w' : World} {B : Nat} {v : Value} {l : List Nat} (h : Row w B v l) (hb : Below w.heap.size w w') : Row w' B v l :=
  World.ownsRow.kept (row := Option.none) h ⟨hb.os, hb.tape, hb.output, hb.size, fun i hi _ => hb.block i hi⟩ (by cases v.ownBlock <;> simp)
theorem Row.lt {w : World} {B : Nat} {v : Value} {l : List Nat} (h : Row w B v l) : ∀ k, v.ownBlock = some k → B ≤ k := fun k hk => (World.ownsRow.lt h k hk).1

theorem Try.info5 : (Try.prog.info? 5).map (fun i => (i.zero, i.size, i.bytes)) = some (some (.int .u8 0), 1, 1) := by kernel_rfl

/-- append(out, l...), out a row of bytes of the call's own, l whatever slice of bytes (nil too). -/
theorem wpList_append_bts {w : World} {ops : Array Oper} {rest : List Oper} {o : Oper} {a : Act} {Q : Exit → Act → World → Prop} (hgd : o.guard = none) (s x : Operand)
    (ho : o.op = .call { callee := .builtin .append, args := #[s, x], argTypes := #[24, 24] }) (base : Nat) (v : Value) (ys : List Nat) (hs : a.eval s = v)
    (hown : Row w base v ys) (B : Nat) (A : Option Addr) (n c : Nat) (xs : List Nat) (hxe : a.eval x = .slice A n c) (hnx : n = xs.length) (hx : Bts w B A xs) (hc : A = none → c = 0)
    (hn : ys.length + xs.length ≤ 1000000) (hbase : base ≤ w.heap.size)
    (h : ∀ v' w', Row w' base v' (ys ++ xs) → Below base w w' → wpList Try.prog ops Q rest (a.put o.dst v') w') : wpList Try.prog ops Q (o :: rest) a w := by
  obtain ⟨i0, hi, hz0, hz1, hz2⟩ := info_parts Try.info5
  subst hnx
  have hlt := hown.lt
  cases A with
  | none =>
    have hx0 : xs = [] := hx.none
    subst hx0
    rw [hc rfl] at hxe
    exact wpList_append_own_none hgd s x 24 ho base 5 i0 1 Try.underlying24 hi v ys.length _ hs hown hxe (h v w (by rw [List.append_nil]; exact hown) (Below.refl _ _))
  | some ad =>
    refine wpList_append_own w hgd s x 24 ho base 5 i0 _ 1 1 Try.underlying24 hi hz0 hz1 hz2 rfl (by decide) v ys.length _ hs hown ad xs.length c (cellsOf xs) hxe (by rw [cellsOf_length, Nat.mul_one]) hx.cells (cellsOf_one xs) (by unfold maxLen; omega) (by omega) hbase ?_
    intro v' w' h1 h2 _
    exact h v' w' (by unfold Row; rw [cellsOf_append, List.length_append]; exact h1) ((Below.refl _ _).grown h2 hbase hlt)

theorem one_laid (w : World) (y : Nat) : Bts (w.alloc (.cells #[.int .u8 (y : Int)] 5)) (w.heap.size + 1) (some ⟨w.heap.size, 0, none⟩) [y] := by
  intro _
  refine ⟨w.heap.size, 0, rfl, by omega, fun k c hk => ?_⟩
  rw [cell_of_row _ _ _ _ _ _ (heap_alloc_new w _), Nat.zero_add]
  match k, hk with
  | 0, hk => simp at hk; subst hk; simp
  | k + 1, hk => simp at hk

/-- It returns a row of these bytes in new memory. -/
def RetRow (w : World) (l : List Nat) (e : Ending) (w' : World) : Prop := ∃ v, e = .returned v ∧ Row w' w.heap.size v l ∧ Below w.heap.size w w'

def EightRel (w : World) (n : Nat) (k : Nat) (v u i : Value) (wr : World) : Prop :=
  ∃ m, m + k = 8 ∧ i = .int .i64 (m : Int) ∧ u = .int .u64 ((n / 256 ^ m : Nat) : Int) ∧ Row wr w.heap.size v (lek m n) ∧ Below w.heap.size w wr

set_option maxRecDepth 100000 in
theorem eight_any (w : World) (z : Int) : Calls Try.prog 15 #[.int .i64 z] w (RetRow w (le8 (u64 z))) := by
  have t0 := u64_wrap z
  have hn := u64_lt z
  obtain ⟨n, hne⟩ : ∃ n, n = u64 z := ⟨_, rfl⟩
  rw [← hne] at t0 hn ⊢
  clear hne
  go_enter Try.func15, Try.ntmps15
  go_wp2_with fail
  go_loopg [3, 4, 5] 8 (fun k v u i wr => EightRel w n k v u i wr)
  case atStart => exact ⟨0, by simp, rfl, by simp, World.ownsRow_nil _ _ _ _, Below.refl _ _⟩
  case round =>
    obtain ⟨m, hmk, hi, hu, hrow, hb⟩ := hrel
    subst hi hu
    have HR := Lib.hid hrow
    have HB := Lib.hid hb
    have hsz := hb.size
    clear hrow hb
    cases gk with
    | zero =>
      have hge : 8 ≤ m := by omega
      have hm8 : Hid (m = 8) := by unfold Hid; omega
      go_wp2_with fail
      go_ret
      have e := HR.out
      rw [hm8.out] at e
      exact ⟨_, rfl, e, HB.out⟩
    | succ j =>
      have hm : m < 8 := by omega
      have HN := Lib.hid (lek_snoc m n)
      have HD := Lib.hid (div_next n m)
      have hu : n / 256 ^ m < 18446744073709551616 := Nat.lt_of_le_of_lt (Nat.div_le_self _ _) hn
      obtain ⟨u, hue⟩ : ∃ u, u = n / 256 ^ m := ⟨_, rfl⟩
      rw [← hue] at HN HD hu ⊢
      obtain ⟨x, hx⟩ : ∃ x, x = u % 256 := ⟨_, rfl⟩
      have hx8 : x < 256 := by omega
      have t0 : (u : Int) % 256 = (x : Int) := by omega
      rw [← hx] at HN
      have HM := Lib.hid hmk
      have HLen := Lib.hid (lek_length m n)
      clear hmk hue hx
      go_wp2_with (first
        | (at_builtin; refine wpList_append_bts rfl _ _ rfl w.heap.size _ _ rfl (HR.out.below ((Below.refl _ _).alloc (Nat.le_refl _) _)) (wr.heap.size + 1) (some ⟨wr.heap.size, 0, none⟩) 1 1 [x] rfl rfl (one_laid wr x) (fun h => by cases h) (by rw [HLen.out]; simp; omega) (by simp; omega) ?_))
      intro v' w1 h1 h2
      have HR1 := Lib.hid h1
      have HB1 := Lib.hid ((HB.out.alloc hsz _).trans h2)
      clear h1 h2
      go_wp2_with fail
      go_roundg j
      case measure => omega
      case rel => exact ⟨m + 1, by have := HM.out; omega, by go_num, by rw [← HD.out]; simp, by rw [HN.out]; exact HR1.out, HB1.out⟩
end Go.Proofs.Ytgjccgdnhccndaa
