/- The reference's Has tells whether a number is one of those of the links, or the one behind them; only new memory is written. -/
import Derived.Test.YtflmfppigpeiaaaDoorF
namespace Go.Proofs.YtflmfppigpeiaaaDoor
open Go.RowKit

theorem linkCells_at {ys : List (ByteArray × Int)} : ∀ {k : Nat} {s : ByteArray} {n : Int}, ys[k]? = some (s, n) → (linkCells ys)[k * 2]? = some (.string s) ∧ (linkCells ys)[k * 2 + 1]? = some (.int .i64 n) := by
  induction ys with
  | nil => intro k s n h; simp at h
  | cons x r ih =>
    intro k s n h
    obtain ⟨s', n'⟩ := x
    cases k with
    | zero => simp at h; obtain ⟨rfl, rfl⟩ := h; exact ⟨rfl, rfl⟩
    | succ k =>
      have := ih (k := k) (by simpa using h)
      have e : (k + 1) * 2 = k * 2 + 2 := by omega
      rw [e]
      exact ⟨by simpa [linkCells] using this.1, by simpa [linkCells] using this.2⟩

/-- What the call owns as a row of links reads as these links. -/
theorem links_of_own {w : World} {base : Nat} {v : Value} {ys : List (ByteArray × Int)} (h : w.ownsRow base 32 2 v ys.length (linkCells ys)) :
    ∃ A c, v = .slice A ys.length c ∧ Links w w.heap.size A ys := by
  rcases h.2 with ⟨rfl, hn⟩ | ⟨g, cap, cur, rfl, hg, hh, _⟩
  · exact ⟨none, 0, by rw [hn], fun hp => by omega⟩
  · refine ⟨_, cap, rfl, fun _ => ⟨g, 0, rfl, (Array.getElem?_eq_some_iff.1 hh).1, fun k s n hx => ?_⟩⟩
    obtain ⟨h1, h2⟩ := linkCells_at hx
    have c1 := h.cells (g := g) rfl _ _ h1
    have c2 := h.cells (g := g) rfl _ _ h2
    rw [Addr.add_lit] at c1 c2
    exact ⟨c1, by simpa [Nat.add_assoc] using c2⟩

def NoneIn (ys : List (ByteArray × Int)) (e : Int) (k : Nat) : Prop := ((ys.take k).map (·.2)).any (· == e) = false

theorem NoneIn.step {l : List (ByteArray × Int)} {e n : Int} {b : ByteArray} {k : Nat} (h : NoneIn l e k) (hx : l[k]? = some (b, n)) (hne : (n == e) = false) : NoneIn l e (k + 1) := by
  unfold NoneIn at *
  rw [List.take_add_one, hx]
  simp only [Option.toList, List.map_append, List.any_append, h, Bool.false_or]
  simpa using hne

theorem any_in {l : List (ByteArray × Int)} {e n : Int} {b : ByteArray} {k : Nat} (hx : l[k]? = some (b, n)) (he : (n == e) = true) : (l.map (·.2)).any (· == e) = true := by
  rw [List.any_eq_true]
  exact ⟨n, List.mem_map.2 ⟨(b, n), List.mem_of_getElem? hx, rfl⟩, he⟩

def RefRel (w : World) (ys : List (ByteArray × Int)) (e : Int) (k : Nat) (i : Value) (wr : World) : Prop :=
  ∃ m, m + k = ys.length ∧ i = .int .i64 (m : Int) ∧ NoneIn ys e m ∧ Below w.heap.size w wr

theorem ref_zero {w : World} {A : Option Addr} {c : Nat} {ln : Int} {ys : List (ByteArray × Int)} (hn : ys.length ≤ 50) :
    Calls Tryd.prog 16 #[.slice A ys.length c, .int .i64 ln, .int .i64 0] w (HasPost w (ys.isEmpty && ln == 0)) := by
  by_cases h0 : ys.length = 0
  · have hl : ys = [] := List.eq_nil_of_length_eq_zero h0
    subst hl
    go_enter Tryd.func16, Tryd.ntmps16
    go_wp2
    go_ret
    exact ⟨rfl, Below.refl _ _⟩
  · have h1 : ((ys.length : Int) == 0) = false := by simp; intro h; subst h; simp at h0
    have HE : Hid (ys.isEmpty = false) := by cases ys with | nil => simp at h0 | cons => rfl
    clear h0
    go_enter Tryd.func16, Tryd.ntmps16
    go_wp2
    go_ret
    exact ⟨by rw [HE.out]; rfl, Below.refl _ _⟩

set_option maxRecDepth 100000 in
theorem ref_some {w : World} {A : Option Addr} {c : Nat} {ln e : Int} {ys : List (ByteArray × Int)} (hx : Links w w.heap.size A ys) (hn : ys.length ≤ 50) (he : (e == 0) = false) :
    Calls Tryd.prog 16 #[.slice A ys.length c, .int .i64 ln, .int .i64 e] w (HasPost w ((ys.map (·.2)).any (· == e) || ln == e)) := by
  have HX := Lib.hid hx
  clear hx
  go_enter Tryd.func16, Tryd.ntmps16
  go_wp2_with fail
  go_loopg [20] ys.length (fun k i wr => RefRel w ys e k i wr)
  case atStart => exact ⟨0, by simp, rfl, rfl, Below.refl _ _⟩
  case round =>
    obtain ⟨m, hmk, hi', hno, hb⟩ := hrel
    subst hi'
    cases gk with
    | zero =>
      have hge : ys.length ≤ m := by omega
      have HA : Hid ((ys.map (·.2)).any (· == e) = false) := by
        have := hno
        unfold NoneIn at this
        rwa [List.take_of_length_le hge] at this
      clear hmk hno
      go_wp2_with fail
      go_ret
      exact ⟨by rw [HA.out]; rfl, hb⟩
    | succ j =>
      have hm : m < ys.length := by omega
      obtain ⟨⟨s, n⟩, hxj⟩ : ∃ x, ys[m]? = some x := ⟨_, List.getElem?_eq_getElem hm⟩
      obtain ⟨b, o, rfl, hlt, hcells⟩ := (HX.out.below hb) (by omega)
      obtain ⟨c1, c2⟩ := hcells m s n hxj
      have hsz := hb.size
      have hlt2 : b < wr.heap.size := by omega
      have HM := Lib.hid hmk
      have HXJ := Lib.hid hxj
      clear hcells hxj hmk
      cases hne : (n == e)
      · go_wp2_with fail
        go_roundg j
        case measure => omega
        case rel => exact ⟨m + 1, by have := HM.out; omega, by go_num, hno.step HXJ.out hne, hb.alloc hsz _⟩
      · go_wp2_with fail
        go_ret
        exact ⟨by rw [any_in HXJ.out hne]; rfl, hb.alloc hsz _⟩

theorem ref_any {w : World} {A : Option Addr} {c : Nat} {ln e : Int} {ys : List (ByteArray × Int)} (hx : Links w w.heap.size A ys) (hn : ys.length ≤ 50) :
    Calls Tryd.prog 16 #[.slice A ys.length c, .int .i64 ln, .int .i64 e] w (HasPost w (hasB (ys.map (·.2)) ln e)) := by
  unfold hasB
  by_cases he : e = 0
  · rw [if_pos he]
    subst he
    simpa using ref_zero (A := A) (c := c) (ln := ln) (w := w) hn
  · rw [if_neg he]
    exact ref_some hx hn (by simpa using he)
end Go.Proofs.YtflmfppigpeiaaaDoor
