/- FaultHas answers true at every slice of links and every two numbers, wherever errors.errorType holds the type of error; only new memory is written. -/
import Derived.Test.YtflmfppigpeiaaaDoorG
import Derived.Test.YtflmfppigpeiaaaDoorM
import Derived.Laws.AppendOwnNone
import Derived.Deep.RegionHeld3
namespace Go.Proofs.YtflmfppigpeiaaaDoor
open Go.RowKit

set_option maxRecDepth 100000 in
theorem long_true {w : World} {A : Option Addr} {n c : Nat} {ln e : Int} (hg : w.cell? ⟨0, 0, none⟩ = some (.iface 75 (.agg #[.pointer (some ⟨5, 25, none⟩)]))) (hn : 50 < n) (hm : n ≤ maxLen) :
    Calls Tryd.prog 4 #[.slice A n c, .int .i64 ln, .int .i64 e] w (FirstPost w) := by
  have F := Lib.hid (first_true hg)
  clear hg
  unfold maxLen at hm
  go_enter Tryd.func4, Tryd.ntmps4
  go_wp2_with (go_at_call 6; refine F.out.mono ?_; rintro e w' ⟨rfl, hb⟩)
  go_ret
  exact ⟨rfl, hb⟩

theorem linkCells_get {xs : List (ByteArray × Int)} : ∀ {j : Nat} {u : Value}, (linkCells xs)[j]? = some u → ∃ (k : Nat) (s : ByteArray) (n : Int), xs[k]? = some (s, n) ∧ ((j = k * 2 ∧ u = .string s) ∨ (j = k * 2 + 1 ∧ u = .int .i64 n)) := by
  induction xs with
  | nil => intro j u h; simp [linkCells] at h
  | cons x r ih =>
    intro j u h
    obtain ⟨s, n⟩ := x
    match j, h with
    | 0, h => simp [linkCells] at h; exact ⟨0, s, n, rfl, .inl ⟨rfl, h.symm⟩⟩
    | 1, h => simp [linkCells] at h; exact ⟨0, s, n, rfl, .inr ⟨rfl, h.symm⟩⟩
    | j + 2, h =>
      obtain ⟨k, s', n', hk, hj⟩ := ih (j := j) (u := u) (by simpa [linkCells] using h)
      refine ⟨k + 1, s', n', by simpa using hk, ?_⟩
      rcases hj with ⟨rfl, hu⟩ | ⟨rfl, hu⟩
      · exact .inl ⟨by omega, hu⟩
      · exact .inr ⟨by omega, hu⟩

theorem linkCells_length (xs : List (ByteArray × Int)) : (linkCells xs).length = xs.length * 2 := by
  induction xs with
  | nil => rfl
  | cons x r ih => obtain ⟨s, n⟩ := x; simp [linkCells, ih]; omega

theorem linkCells_one (xs : List (ByteArray × Int)) : ∀ u ∈ linkCells xs, u.oneCell' = true := by
  intro u hu
  obtain ⟨j, hj⟩ := List.mem_iff_getElem?.1 hu
  obtain ⟨k, s, n, _, ⟨_, rfl⟩ | ⟨_, rfl⟩⟩ := linkCells_get hj <;> rfl

theorem Links.cells {w : World} {B : Nat} {a : Addr} {xs : List (ByteArray × Int)} (h : Links w B (some a) xs) : ∀ j u, (linkCells xs)[j]? = some u → w.cell? (a.add j) = some u := by
  intro j u hu
  obtain ⟨k, s, n, hk, hj⟩ := linkCells_get hu
  have hp : 0 < xs.length := by
    have := (List.getElem?_eq_some_iff.1 hk).1
    omega
  obtain ⟨b, o, hA, _, hc⟩ := h hp
  injection hA with hA
  subst hA
  obtain ⟨c1, c2⟩ := hc k s n hk
  rw [Go.WideShapes.add_plain]
  rcases hj with ⟨rfl, rfl⟩ | ⟨rfl, rfl⟩
  · exact c1
  · rw [← Nat.add_assoc]; exact c2

/-- The three links that the law lays ahead of the others. -/
def three (e ln : Int) : List (ByteArray × Int) := [(⟨#[]⟩, e), (⟨#[]⟩, ln), (⟨#[]⟩, 0)]

theorem three_own (w : World) (e ln : Int) :
    (w.alloc (.cells #[.string ⟨#[]⟩, .int .i64 e, .string ⟨#[]⟩, .int .i64 ln, .string ⟨#[]⟩, .int .i64 0] 32)).ownsRow w.heap.size 32 2 (.slice (some ⟨w.heap.size, 0, none⟩) 3 3) 3 (linkCells (three e ln)) :=
  ⟨rfl, .inr ⟨w.heap.size, 3, _, rfl, Nat.le_refl _, heap_alloc_new w _, Nat.le_refl _, by unfold maxLen; omega, rfl, rfl⟩⟩

theorem Links.more {w : World} {B B' : Nat} {A : Option Addr} {xs : List (ByteArray × Int)} (h : Links w B A xs) (hB : B ≤ B') : Links w B' A xs := fun hp => by
  obtain ⟨b, o, hA, hlt, hc⟩ := h hp
  exact ⟨b, o, hA, by omega, hc⟩

/-- append(out, l...), out a row of links of the call's own, l whatever slice of links (nil too). -/
theorem wpList_append_links {w : World} {ops : Array Oper} {rest : List Oper} {o : Oper} {a : Act} {Q : Exit → Act → World → Prop} (hgd : o.guard = none) (s x : Operand)
    (ho : o.op = .call { callee := .builtin .append, args := #[s, x], argTypes := #[22, 22] }) (base : Nat) (v : Value) (n : Nat) (ys : List (ByteArray × Int)) (hs : a.eval s = v)
    (hown : w.ownsRow base 32 2 v n (linkCells ys)) (B : Nat) (A : Option Addr) (c : Nat) (xs : List (ByteArray × Int)) (hxe : a.eval x = .slice A xs.length c) (hx : Links w B A xs) (hc : A = none → c = 0)
    (hn : n + xs.length ≤ 1000) (hbase : base ≤ w.heap.size)
    (h : ∀ v' w', w'.ownsRow base 32 2 v' (n + xs.length) (linkCells (ys ++ xs)) → w.grownBy w' v.ownBlock → wpList Tryd.prog ops Q rest (a.put o.dst v') w') : wpList Tryd.prog ops Q (o :: rest) a w := by
  obtain ⟨i0, hi, hz0, hz1, hz2⟩ := info_parts Tryd.info32
  cases A with
  | none =>
    have hx0 : xs = [] := by
      cases xs with
      | nil => rfl
      | cons y r => obtain ⟨b, o', hA, _⟩ := hx (by simp); cases hA
    subst hx0
    rw [hc rfl] at hxe
    exact wpList_append_own_none hgd s x 22 ho base 32 i0 2 Tryd.underlying22 hi v n _ hs hown hxe (h v w (by simpa using hown) (World.grownBy.refl w _))
  | some ad =>
    refine wpList_append_own w hgd s x 22 ho base 32 i0 _ 2 24 Tryd.underlying22 hi hz0 hz1 hz2 rfl (by decide) v n _ hs hown ad xs.length c (linkCells xs) hxe (linkCells_length xs) hx.cells (linkCells_one xs) (by unfold maxLen; omega) (by omega) hbase ?_
    intro v' w' h1 h2 _
    exact h v' w' (by rw [linkCells_append]; exact h1) h2

theorem keptN_map (xs : List (ByteArray × Int)) : keptN (xs.map (·.2)) = (keptL xs).map (·.2) := by
  unfold keptN keptL
  rw [List.filter_map]
  rfl

theorem keptL_short (xs : List (ByteArray × Int)) : (keptL xs).length ≤ xs.length := List.length_filter_le _ _

def HasRound (w3 : World) (N k : Nat) (i : Value) (wr : World) : Prop := ∃ m, m + k = N ∧ i = .int .i64 (m : Int) ∧ Below w3.heap.size w3 wr

set_option maxRecDepth 100000 in
theorem short_true {w : World} {A : Option Addr} {c : Nat} {ln e : Int} {xs : List (ByteArray × Int)} (hg : w.cell? ⟨0, 0, none⟩ = some (.iface 75 (.agg #[.pointer (some ⟨5, 25, none⟩)]))) (hx : Links w w.heap.size A xs) (hc : A = none → c = 0) (hn : xs.length ≤ 50) :
    Calls Tryd.prog 4 #[.slice A xs.length c, .int .i64 ln, .int .i64 e] w (FirstPost w) := by
  have F := Lib.hid (first_true hg)
  have X := Lib.hid hx
  have HC := Lib.hid hc
  have hd : decide ((50 : Int) < (xs.length : Int)) = false := by simp; omega
  clear hg hx hc
  go_enter Tryd.func4, Tryd.ntmps4
  go_wp2_with fail
  refine F.out.mono ?_
  rintro _ w1 ⟨rfl, hb1⟩
  have X1 := Lib.hid (X.out.below hb1)
  have B1 := Lib.hid hb1
  have hs1 := hb1.size
  clear hb1
  go_wp2_with fail
  refine (made_any (c := c) (ln := ln) (w := w1) (xs := xs) (A := A) (X1.out.more hs1) hn).mono ?_
  rintro _ w2 ⟨v, l, rfl, hchn, hkl, hb2⟩
  have X2 := Lib.hid (X1.out.below (hb2.mono hs1))
  have B2 := Lib.hid (B1.out.trans (hb2.mono hs1))
  have C2 := Lib.hid hchn
  have K2 := Lib.hid hkl
  have hs2 := B2.out.size
  clear hb2 hchn hkl
  go_wp2_with (first
    | (at_builtin; refine wpList_append_links rfl _ _ rfl w2.heap.size _ 3 (three e ln) rfl (three_own w2 e ln) w.heap.size A c xs rfl (X2.out.below ((Below.refl _ _).alloc hs2 _)) HC.out (by omega) (by simp) ?_))
  intro v' w3 hown hgrow
  have hb3 : Below w2.heap.size w2 w3 := ((Below.refl _ _).alloc (Nat.le_refl _) _).grown hgrow (by simp) (fun k hk => by simp [Value.ownBlock] at hk; omega)
  obtain ⟨g, cap, rfl, hg2, hgl⟩ := hown.form (by omega)
  have Z : Hid (∀ (k : Nat) (s : ByteArray) (n : Int), (three e ln ++ xs)[k]? = some (s, n) → w3.cell? ⟨g, k * 2, none⟩ = some (.string s) ∧ w3.cell? ⟨g, k * 2 + 1, none⟩ = some (.int .i64 n)) := by
    intro k s n hk
    obtain ⟨h1, h2⟩ := linkCells_at hk
    have c1 := hown.cells (g := g) rfl _ _ h1
    have c2 := hown.cells (g := g) rfl _ _ h2
    rw [Addr.add_lit] at c1 c2
    exact ⟨by simpa using c1, by simpa using c2⟩
  have X3 := Lib.hid (X2.out.below (hb3.mono hs2))
  have B3 := Lib.hid (B2.out.trans (hb3.mono hs2))
  have C3 := Lib.hid (C2.out.below (Nat.le_refl _) hb3)
  have hs3 := B3.out.size
  have hll : l.length ≤ 100 := by
    have h1 := congrArg List.length K2.out
    rw [keptN_map] at h1
    simp at h1
    have := keptL_short xs
    omega
  have KK := Lib.hid (K2.out.trans (keptN_map xs))
  clear hown hgrow hb3 X2 B2 C2 K2 X1 B1 X
  go_wp2_with fail
  go_loopg [27] (3 + xs.length) (fun k i wr => HasRound w3 (3 + xs.length) k i wr)
  case atStart => exact ⟨0, by simp, rfl, Below.refl _ _⟩
  case round =>
    obtain ⟨m, hmk, hi', hb⟩ := hrel
    subst hi'
    have hsr := hb.size
    cases gk with
    | zero =>
      have hge : 3 + xs.length ≤ m := by omega
      have HB := Lib.hid (B3.out.trans (hb.mono hs3))
      clear hb hmk
      go_wp2_with fail
      go_ret
      exact ⟨rfl, HB.out⟩
    | succ j =>
      have hm : m < 3 + xs.length := by omega
      obtain ⟨⟨s, n⟩, hz⟩ : ∃ x, (three e ln ++ xs)[m]? = some x := ⟨_, List.getElem?_eq_getElem (by simp [three]; omega)⟩
      obtain ⟨z1, z2⟩ := Z.out m s n hz
      have d1 := (hb.cell (p := ⟨g, m * 2, none⟩) hgl).trans z1
      have d2 := (hb.cell (p := ⟨g, m * 2 + 1, none⟩) hgl).trans z2
      have hgr : g < wr.heap.size := by omega
      have HM := Lib.hid hmk
      have HB := Lib.hid hb
      clear z1 z2 hz hmk hb
      have hbx : Below w3.heap.size w3 (wr.alloc (.cells #[.string s, .int .i64 n] 32)).drew := (HB.out.alloc hsr _).drew
      obtain ⟨r, hr⟩ : ∃ r, r = hasB ((keptL xs).map (·.2)) ln n := ⟨_, rfl⟩
      have H15 : Hid (Calls Tryd.prog 15 #[v, .int .i64 n] (wr.alloc (.cells #[.string s, .int .i64 n] 32)).drew (HasPost (wr.alloc (.cells #[.string s, .int .i64 n] 32)).drew r)) := by
        rw [hr, ← KK.out]
        exact has_any (C3.out.below (Nat.le_refl _) hbx) hll
      have H8 : Hid (∀ W1, Below (wr.alloc (.cells #[.string s, .int .i64 n] 32)).drew.heap.size (wr.alloc (.cells #[.string s, .int .i64 n] 32)).drew W1 → Calls Tryd.prog 8 #[.slice A xs.length c] W1 (KeptPost W1 xs)) := by
        intro W1 h
        have h3 : Below w.heap.size w3 W1 := (hbx.mono hs3).trans (h.mono (by simp; omega))
        exact kept_any ((X3.out.below h3).more (Nat.le_trans hs3 h3.size)) hn
      have H16 : Hid (∀ W2 Ak ck, Links W2 W2.heap.size Ak (keptL xs) → Calls Tryd.prog 16 #[.slice Ak (keptL xs).length ck, .int .i64 ln, .int .i64 n] W2 (HasPost W2 r)) := by
        intro W2 Ak ck h
        rw [hr]
        exact ref_any h (by have := keptL_short xs; omega)
      have BX := Lib.hid hbx
      clear hr hbx
      go_wp2_with fail
      go_region_held3 (fun W => W.cell? ⟨wr.heap.size, 1, none⟩ = some (.int .i64 n))
        (first
          | go_keep
          | exact cell_on ‹_› hbC
          | exact cell_on ‹_› hbB
          | exact cell_on ‹_› hbA)
        (first
          | (go_at_call 15; refine H15.out.mono ?_; rintro _ W1 ⟨rfl, hbA⟩)
          | (go_at_call 8; refine (H8.out _ hbA).mono ?_; rintro _ W2 ⟨vk, rfl, hok, hbB⟩; obtain ⟨Ak, ck, rfl, hlk⟩ := links_of_own hok; clear hok)
          | (go_at_call 16; refine (H16.out _ _ _ hlk).mono ?_; rintro _ W3 ⟨rfl, hbC⟩))
      have hA := hbA.size
      have hB := hbB.size
      have hx3 := BX.out.size
      have HF := Lib.hid (((BX.out.trans (hbA.mono hx3)).trans (hbB.mono (Nat.le_trans hx3 hA))).trans (hbC.mono (Nat.le_trans hx3 (Nat.le_trans hA hB))))
      clear hbA hbB hbC hA hB hx3 hlk d1 d2
      go_wp2_with fail
      go_roundg j
      case measure => omega
      case rel => exact ⟨m + 1, by have := HM.out; omega, by go_num, HF.out⟩
end Go.Proofs.YtflmfppigpeiaaaDoor
