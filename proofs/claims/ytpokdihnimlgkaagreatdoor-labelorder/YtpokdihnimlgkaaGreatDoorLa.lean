/- label.entryError, label.Level, label.Right. -/
import Derived.Test.YtpokdihnimlgkaaGreatDoorLm
import Derived.Test.YtpokdihnimlgkaaGreatDoorM
namespace Go.Proofs.YtpokdihnimlgkaaGreatDoor
open Go.RowKit

set_option maxRecDepth 100000 in
theorem entryError_any {w : World} {s : List UInt8} {n : Int} (h : Env w) (hn : s.length ≤ 140737488351232) :
    Calls Tryz.prog 30 #[.agg #[.string (str s), .int .i64 n]] w (RetB w (.int .i64 (entErr (s, n)))) := by
  have H54 := Lib.hid (right_any (w := w.alloc (.cells #[.string (str s), .int .i64 n] 33)) (h.below ((Below.refl _ _).alloc (Nat.le_refl _) _) h.1) hn)
  have hA : Below w.heap.size w (w.alloc (.cells #[.string (str s), .int .i64 n] 33)) := (Below.refl _ _).alloc (Nat.le_refl _) _
  have HA := Lib.hid hA
  have k1 : (w.alloc (.cells #[.string (str s), .int .i64 n] 33)).cell? ⟨w.heap.size, 1, none⟩ = some (.int .i64 n) := by simp
  have K1 := Lib.hid k1
  have hs1 : w.heap.size < (w.alloc (.cells #[.string (str s), .int .i64 n] 33)).heap.size := by simp
  have HS := Lib.hid hs1
  clear hA k1 hs1 h
  cases hc : (catOf s).isSome with
  | false =>
    have HD : Hid (entErr (s, n) = 20) := by unfold Hid entErr; rw [if_pos hc]
    rw [hc] at H54
    go_enter Tryz.func30, Tryz.ntmps30
    go_wp2_with fail
    refine H54.out.mono ?_
    rintro e w1 ⟨rfl, hb1⟩
    have B1 := Lib.hid (HA.out.trans (hb1.mono HA.out.size))
    clear hb1
    go_wp2_with fail
    go_ret
    exact ⟨by rw [HD.out]; rfl, B1.out⟩
  | true =>
    rw [hc] at H54
    go_enter Tryz.func30, Tryz.ntmps30
    go_wp2_with fail
    refine H54.out.mono ?_
    rintro e w1 ⟨rfl, hb1⟩
    have B1 := Lib.hid (HA.out.trans (hb1.mono HA.out.size))
    have c1 : w1.cell? ⟨w.heap.size, 1, none⟩ = some (.int .i64 n) := (hb1.cell (p := ⟨w.heap.size, 1, none⟩) HS.out).trans K1.out
    clear hb1
    by_cases h0 : n < 0
    · have HD : Hid (entErr (s, n) = 21) := by unfold Hid entErr; rw [hc, if_neg (by decide), if_pos (.inl h0)]
      go_wp2_with fail
      go_ret
      exact ⟨by rw [HD.out]; rfl, B1.out⟩
    · by_cases h3 : n > 3
      · have HD : Hid (entErr (s, n) = 21) := by unfold Hid entErr; rw [hc, if_neg (by decide), if_pos (.inr h3)]
        go_wp2_with fail
        go_ret
        exact ⟨by rw [HD.out]; rfl, B1.out⟩
      · have HD : Hid (entErr (s, n) = 0) := by unfold Hid entErr; rw [hc, if_neg (by decide), if_neg (by simp; omega)]
        go_wp2_with fail
        go_ret
        exact ⟨by rw [HD.out]; rfl, B1.out⟩

/-- Between two rounds of Level. -/
def LevRel (w : World) (l : List Ent) (c : List UInt8) (k : Nat) (i : Value) (wr : World) : Prop :=
  ∃ m, m + k = l.length ∧ i = .int .i64 (m : Int) ∧ (∀ x ∈ l.take m, x.1 ≠ c) ∧ Below w.heap.size w wr
theorem take_no {l : List Ent} {m : Nat} {e : Ent} {P : Ent → Prop} (h : l[m]? = some e) (hno : ∀ x ∈ l.take m, P x) (he : P e) : ∀ x ∈ l.take (m + 1), P x := fun x hx => by
  rw [List.take_add_one, h] at hx
  rcases List.mem_append.1 hx with h1 | h1
  · exact hno x h1
  · simp at h1
    subst h1
    exact he

set_option maxRecDepth 100000 in
theorem level_any {w : World} {A : Option Addr} {c : Nat} {l : List Ent} {s : List UInt8} (hl : Ents w w.heap.size A l) (hn : l.length ≤ 1000000) :
    Calls Tryz.prog 15 #[.slice A l.length c, .string (str s)] w (RetB w (.int .i64 (lev l s))) := by
  have HL := Lib.hid hl
  clear hl
  go_enter Tryz.func15, Tryz.ntmps15
  go_wp2_with fail
  go_loopg [9] l.length (fun k i wr => LevRel w l s k i wr)
  case atStart => exact ⟨0, by simp, rfl, by simp, Below.refl _ _⟩
  case round =>
    obtain ⟨m, hmk, hi, hno, hb⟩ := hrel
    subst hi
    have HB := Lib.hid hb
    have HN := Lib.hid hno
    have hsz := hb.size
    cases gk with
    | zero =>
      have hge : l.length ≤ m := by omega
      have HD : Hid (lev l s = 1) := lev_none (by have := HN.out; rwa [List.take_of_length_le hge] at this)
      clear hno hb
      go_wp2_with fail
      go_ret
      exact ⟨by rw [HD.out]; rfl, HB.out⟩
    | succ j =>
      have hm : m < l.length := by omega
      obtain ⟨⟨t, n⟩, hx⟩ : ∃ x, l[m]? = some x := ⟨_, List.getElem?_eq_getElem hm⟩
      obtain ⟨b, o, rfl, hlt, hcells⟩ := (HL.out.below hb) (by omega)
      obtain ⟨c1, c2⟩ := hcells m t n hx
      have hlt2 : b < wr.heap.size := by omega
      have HM := Lib.hid hmk
      have HX := Lib.hid hx
      by_cases he : t = s
      · have HD : Hid (lev l s = n) := lev_hit HX.out HN.out he
        have hq := str_same he
        clear hcells hx hmk hno hb he
        go_wp2_with fail
        go_ret
        exact ⟨by rw [HD.out]; rfl, HB.out.alloc hsz _⟩
      · have HN2 := Lib.hid (take_no (P := fun x => x.1 ≠ s) HX.out HN.out he)
        have hq := str_differs he
        clear hcells hx hmk hno hb he
        go_wp2_with fail
        go_roundg j
        case measure => omega
        case rel => exact ⟨m + 1, by have := HM.out; omega, by go_num, HN2.out, HB.out.alloc hsz _⟩
end Go.Proofs.YtpokdihnimlgkaaGreatDoor
