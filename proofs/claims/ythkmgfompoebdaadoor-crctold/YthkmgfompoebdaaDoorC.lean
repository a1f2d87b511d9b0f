/- crc.Of returns the checksum of its bytes; crc.number the number that up to four bytes are; bytes.Clone a copy in new memory. -/
import Derived.Test.YthkmgfompoebdaaDoorB
import Derived.Laws.AppendOwn
import Derived.Laws.AppendOwnNone
import Derived.Laws.OwnMore
namespace Go.Proofs.YthkmgfompoebdaaDoor
open Go.RowKit

/-- It returns v; only new memory is written. -/
def RetB (w : World) (v : Value) (e : Ending) (w' : World) : Prop := e = .returned v ∧ Below w.heap.size w w'

theorem ret_int {k : IntKind} {a b : Int} (h : a = b) : Ending.returned (.int k a) = .returned (.int k b) := by rw [h]
theorem val_nat {k : IntKind} {a b : Nat} (h : a = b) : Value.int k (a : Int) = .int k (b : Int) := by rw [h]

theorem of_any {w : World} {A : Option Addr} {c : Nat} {l : List Nat} (ht : TabIn w) (hl : Bts w w.heap.size A l) (hs : Sml l) (hn : l.length ≤ 100000) :
    Calls Tryd.prog 10 #[.slice A l.length c] w (RetB w (.int .u32 ((crc l : Nat) : Int))) := by
  have H7 : Hid (Calls Tryd.prog 7 #[.pointer (some ⟨w.heap.size, 0, none⟩), .slice A l.length c] (w.alloc (.cells #[.int .u32 0] 26)) fun e w' => e = .returned (.tuple #[]) ∧ (w.alloc (.cells #[.int .u32 0] 26)).setCell ⟨w.heap.size, 0, none⟩ (.int .u32 ((sumTo 0 l : Nat) : Int)) = w') := by
    have hb : Below w.heap.size w (w.alloc (.cells #[.int .u32 0] 26)) := (Below.refl _ _).alloc (Nat.le_refl _) _
    exact add_any (ht.below ht.1 hb) ((hl.below hb).more hb.size) hs hn (by omega) (by simp) (by simp)
  have HN : Hid (sumTo 0 l = crc l) := rfl
  obtain ⟨s, hsv⟩ : ∃ s, s = sumTo 0 l := ⟨_, rfl⟩
  rw [← hsv] at H7 HN
  have HT := Lib.hid ht
  clear ht hl hs hsv
  go_enter Tryd.func10, Tryd.ntmps10
  go_wp2_with (first
    | (go_at_call 7; refine H7.out.mono ?_; rintro e w' ⟨rfl, rfl⟩)
    | (go_at_call 8; refine (value_any (v := s) (by simp)).mono ?_; rintro e w' ⟨rfl, rfl⟩))
  go_ret
  exact ⟨ret_int (by rw [HN.out]), (Below.refl _ _).alloc (Nat.le_refl _) _⟩

def num (l : List Nat) : Nat := l.foldl (fun v c => v * 256 + c) 0
theorem num_snoc {m c : Nat} {l : List Nat} (h : l[m]? = some c) : num (l.take (m + 1)) = num (l.take m) * 256 + c := by
  rw [List.take_add_one, h, num, List.foldl_append]
  rfl
theorem num_lt {l : List Nat} (hs : Sml l) : ∀ m, m ≤ 3 → num (l.take m) < 256 ^ m := by
  intro m
  induction m with
  | zero => intro _; simp [num]
  | succ m ih =>
    intro hm
    have h := ih (by omega)
    by_cases hl : m < l.length
    · rw [num_snoc (List.getElem?_eq_getElem hl), Nat.pow_succ]
      have := hs l[m] (List.getElem_mem hl)
      omega
    · rw [List.take_of_length_le (by omega)] at h ⊢
      rw [Nat.pow_succ]
      omega

theorem or_byte (v c : Nat) (hv : v < 16777216) (hc : c < 256) : bits .or .u32 ((v : Int) * 256) (c : Int) = ((v * 256 + c : Nat) : Int) := by
  have e := u32_or_nat (v * 256) c (by omega) (by omega)
  have h := Nat.two_pow_add_eq_or_of_lt (i := 8) (b := c) (by omega) v
  rw [Nat.mul_comm v 256] at e
  rw [← h, Nat.mul_comm] at e
  simpa using e

def NumRel (w : World) (l : List Nat) (k : Nat) (v i : Value) (wr : World) : Prop :=
  ∃ m, m + k = l.length ∧ i = .int .i64 (m : Int) ∧ v = .int .u32 ((num (l.take m) : Nat) : Int) ∧ w = wr

set_option maxRecDepth 100000 in
theorem num_any {w : World} {A : Option Addr} {c : Nat} {l : List Nat} (hl : Bts w w.heap.size A l) (hs : Sml l) (hn : l.length ≤ 4) :
    Calls Tryd.prog 15 #[.slice A l.length c] w fun e w' => e = .returned (.int .u32 ((num l : Nat) : Int)) ∧ w = w' := by
  have HL := Lib.hid hl
  have HS := Lib.hid hs
  clear hl hs
  go_enter Tryd.func15, Tryd.ntmps15
  go_wp2_with fail
  go_loopg [3, 8] l.length (fun k v i wr => NumRel w l k v i wr)
  case atStart => exact ⟨0, by simp, rfl, rfl, rfl⟩
  case round =>
    obtain ⟨m, hmk, hi, hr, hw⟩ := hrel
    subst hi hr hw
    cases gk with
    | zero =>
      have hge : l.length ≤ m := by omega
      go_wp2_with fail
      go_ret
      exact ⟨ret_int (by rw [List.take_of_length_le hge]), rfl⟩
    | succ j =>
      have hm : m < l.length := by omega
      obtain ⟨x, hx⟩ : ∃ x, l[m]? = some x := ⟨_, List.getElem?_eq_getElem hm⟩
      obtain ⟨b, o, rfl, hlt, hcells⟩ := HL.out (by omega)
      have cx := hcells m x hx
      have hx8 := HS.out.at hx
      have hv : num (l.take m) < 16777216 := by
        have h1 := num_lt HS.out m (by omega)
        have h2 : 256 ^ m ≤ 256 ^ 3 := Nat.pow_le_pow_right (by omega) (by omega)
        omega
      have RN := Lib.hid (num_snoc hx)
      obtain ⟨v, hve⟩ : ∃ v, v = num (l.take m) := ⟨_, rfl⟩
      rw [← hve] at RN hv ⊢
      have f1 := or_byte v x hv hx8
      have HM := Lib.hid hmk
      clear hve hmk hx hcells
      go_wp2_with fail
      go_roundg j
      case measure => omega
      case rel => exact ⟨m + 1, by have := HM.out; omega, by go_num, by rw [RN.out]; go_num, rfl⟩

/-- It returns a slice of these bytes in new memory. -/
def RetCopy (w : World) (l : List Nat) (e : Ending) (w' : World) : Prop := ∃ A c, e = .returned (.slice A l.length c) ∧ Bts w' w'.heap.size A l ∧ Below w.heap.size w w'

def cellsOf (l : List Nat) : List Value := l.map fun c : Nat => Value.int .u8 (c : Int)
theorem cellsOf_length (l : List Nat) : (cellsOf l).length = l.length := by simp [cellsOf]
theorem cellsOf_at {l : List Nat} {k c : Nat} (h : l[k]? = some c) : (cellsOf l)[k]? = some (.int .u8 (c : Int)) := by simp [cellsOf, h]
theorem cellsOf_get {l : List Nat} {k : Nat} {u : Value} (h : (cellsOf l)[k]? = some u) : ∃ c, l[k]? = some c ∧ u = .int .u8 (c : Int) := by
  simp [cellsOf] at h
  obtain ⟨c, h1, h2⟩ := h
  exact ⟨c, h1, h2.symm⟩
theorem cellsOf_one (l : List Nat) : ∀ u ∈ cellsOf l, u.oneCell' = true := by
  intro u hu
  simp [cellsOf] at hu
  obtain ⟨c, _, rfl⟩ := hu
  rfl

theorem Bts.cells {w : World} {B : Nat} {a : Addr} {l : List Nat} (h : Bts w B (some a) l) : ∀ j u, (cellsOf l)[j]? = some u → w.cell? (a.add j) = some u := by
  intro j u hu
  obtain ⟨c, hc, rfl⟩ := cellsOf_get hu
  have hp : 0 < l.length := by
    have := (List.getElem?_eq_some_iff.1 hc).1
    omega
  obtain ⟨b, o, hA, _, hx⟩ := h hp
  injection hA with hA
  subst hA
  rw [Go.WideShapes.add_plain]
  exact hx j c hc

theorem bts_of_own {w : World} {base n : Nat} {v : Value} {l : List Nat} (h : w.ownsRow base 5 1 v n (cellsOf l)) (hn : n = l.length) : ∃ A c, v = .slice A l.length c ∧ Bts w w.heap.size A l := by
  subst hn
  have h0 := h
  rcases h.2 with ⟨rfl, he⟩ | ⟨g, cap, cur, rfl, hb, hh, hr⟩
  · have hl : l = [] := by
      exact List.eq_nil_of_length_eq_zero he
    subst hl
    exact ⟨none, 0, rfl, fun h => absurd h (by simp)⟩
  · refine ⟨_, cap, rfl, fun _ => ⟨g, 0, rfl, (h0.lt g rfl).2, fun k c hk => ?_⟩⟩
    have := h0.cells (g := g) rfl k _ (cellsOf_at hk)
    rw [Go.WideShapes.add_plain] at this
    exact this

theorem Tryd.info5 : (Tryd.prog.info? 5).map (fun i => (i.zero, i.size, i.bytes)) = some (some (.int .u8 0), 1, 1) := by kernel_rfl

theorem cellsOf_append (a b : List Nat) : cellsOf (a ++ b) = cellsOf a ++ cellsOf b := by simp [cellsOf]

/-- append(out, l...), out a row of bytes of the call's own, l whatever slice of bytes (nil too). -/
theorem wpList_append_bts {w : World} {ops : Array Oper} {rest : List Oper} {o : Oper} {a : Act} {Q : Exit → Act → World → Prop} (hgd : o.guard = none) (s x : Operand)
    (ho : o.op = .call { callee := .builtin .append, args := #[s, x], argTypes := #[28, 28] }) (base : Nat) (v : Value) (n : Nat) (ys : List Nat) (hs : a.eval s = v)
    (hown : w.ownsRow base 5 1 v n (cellsOf ys)) (B : Nat) (A : Option Addr) (c : Nat) (xs : List Nat) (hxe : a.eval x = .slice A xs.length c) (hx : Bts w B A xs) (hc : A = none → c = 0)
    (hn : n + xs.length ≤ 1000000) (hbase : base ≤ w.heap.size)
    (h : ∀ v' w', w'.ownsRow base 5 1 v' (n + xs.length) (cellsOf (ys ++ xs)) → w.grownBy w' v.ownBlock → wpList Tryd.prog ops Q rest (a.put o.dst v') w') : wpList Tryd.prog ops Q (o :: rest) a w := by
  obtain ⟨i0, hi, hz0, hz1, hz2⟩ := info_parts Tryd.info5
  cases A with
  | none =>
    have hx0 : xs = [] := by
      cases xs with
      | nil => rfl
      | cons y r => obtain ⟨b, o', hA, _⟩ := hx (by simp); cases hA
    subst hx0
    rw [hc rfl] at hxe
    exact wpList_append_own_none hgd s x 28 ho base 5 i0 1 Tryd.underlying28 hi v n _ hs hown hxe (h v w (by simpa using hown) (World.grownBy.refl w _))
  | some ad =>
    refine wpList_append_own w hgd s x 28 ho base 5 i0 _ 1 1 Tryd.underlying28 hi hz0 hz1 hz2 rfl (by decide) v n _ hs hown ad xs.length c (cellsOf xs) hxe (by rw [cellsOf_length, Nat.mul_one]) hx.cells (cellsOf_one xs) (by unfold maxLen; omega) (by omega) hbase ?_
    intro v' w' h1 h2 _
    exact h v' w' (by rw [cellsOf_append]; exact h1) h2

theorem clone_any {w : World} {A : Option Addr} {c : Nat} {l : List Nat} (hl : Bts w w.heap.size A l) (hc : A = none → c = 0) (hn : l.length ≤ 100000) :
    Calls Tryd.prog 16 #[.slice A l.length c] w (RetCopy w l) := by
  obtain ⟨i0, hi, hz0, hz1, hz2⟩ := info_parts Tryd.info5
  cases A with
  | none =>
    have hl0 : l = [] := by
      cases l with
      | nil => rfl
      | cons y r => obtain ⟨b, o', hA, _⟩ := hl (by simp); cases hA
    subst hl0
    have hc0 := hc rfl
    subst hc0
    clear hc
    have hq : ∀ w : World, (binOp .eql 28 (.slice none 0 0) (.slice none 0 0)).run Tryd.prog w = .ok (.bool true) w := fun _ => rfl
    go_enter Tryd.func16, Tryd.ntmps16
    go_wp2_with fail
    go_ret
    exact ⟨none, 0, rfl, fun h => absurd h (by simp), Below.refl _ _⟩
  | some a =>
    have HL := Lib.hid hl
    clear hl hc
    have hq : ∀ w : World, (binOp .eql 28 (.slice (some a) l.length c) (.slice none 0 0)).run Tryd.prog w = .ok (.bool false) w := fun _ => rfl
    go_enter Tryd.func16, Tryd.ntmps16
    go_wp2_with (first
      | (at_builtin; refine wpList_append_bts rfl _ _ rfl w.heap.size _ 0 [] rfl (World.ownsRow_lit (base := w.heap.size) w #[] 0 (Nat.le_refl _) (by unfold maxLen; omega) rfl) w.heap.size (some a) c l rfl (HL.out.below ((Below.refl _ _).alloc (Nat.le_refl _) _)) (fun h => by cases h) (by omega) (by simp) ?_))
    intro v' w1 hown hgrow
    have hb1 : Below w.heap.size w w1 := ((Below.refl _ _).alloc (Nat.le_refl _) _).grown hgrow (by simp) (fun k hk => by simp [Value.ownBlock] at hk; omega)
    have HO := Lib.hid hown
    clear hown hgrow
    go_wp2_with fail
    go_ret
    obtain ⟨A', c', hv, hbt⟩ := bts_of_own HO.out (by simp)
    exact ⟨A', c', by rw [← hv]; rfl, hbt, hb1⟩
end Go.Proofs.YthkmgfompoebdaaDoor
