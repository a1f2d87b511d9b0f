/- (*sum).addBytes, (*sum).addNumber and (*sum).digest. -/
import Derived.Test.YtgjccgdnhccndaaB
import Derived.Deep.QuietTactic
import Derived.BigQuiet
namespace Go.Proofs.Ytgjccgdnhccndaa
open Go.RowKit

/-- A slice's bytes, as they lie below block B. -/
def Bts (w : World) (B : Nat) (A : Option Addr) (l : List Nat) : Prop :=
  0 < l.length → ∃ b o, A = some ⟨b, o, none⟩ ∧ b < B ∧ ∀ k c : Nat, l[k]? = some c → w.cell? ⟨b, o + k, none⟩ = some (.int .u8 (c : Int))
theorem Bts.below {w w' : World} {B : Nat} {A : Option Addr} {l : List Nat} (h : Bts w B A l) (hb : Below B w w') : Bts w' B A l := fun hp => by
  obtain ⟨b, o, hA, hlt, hc⟩ := h hp
  exact ⟨b, o, hA, hlt, fun k c hk => (hb.cell (p := ⟨b, o + k, none⟩) hlt).trans (hc k c hk)⟩
theorem Bts.more {w : World} {B B' : Nat} {A : Option Addr} {l : List Nat} (h : Bts w B A l) (hB : B ≤ B') : Bts w B' A l := fun hp => by
  obtain ⟨b, o, hA, hlt, hc⟩ := h hp
  exact ⟨b, o, hA, by omega, hc⟩
theorem Bts.none {w : World} {B : Nat} {l : List Nat} (h : Bts w B none l) : l = [] := by
  cases l with
  | nil => rfl
  | cons y r => obtain ⟨b, o', hA, _⟩ := h (by simp); cases hA

/-- It returns nothing; the sum in g is now that of l; nothing below B has turned. -/
def Took (B : Nat) (w : World) (g : Nat) (l : List Nat) (e : Ending) (w' : World) : Prop := e = .returned (.tuple #[]) ∧ SumOf w' g l ∧ Below B w w'

theorem sum_add {w : World} {g c B : Nat} {l : List Nat} (h : SumOf w g l) (hn : l.length < 1000000000) (hc : c < 256) (hB : B ≤ g) :
    Calls Try.prog 17 #[.pointer (some ⟨g, 0, none⟩), .int .u8 (c : Int)] w (Took B w g (l ++ [c])) := by
  refine (add_one h hn hc hB).mono fun e w' ⟨he, h1, h2⟩ => ⟨he, ?_, h2⟩
  unfold SumOf
  rw [st_snoc, List.length_append]
  exact h1

theorem take_snoc {l0 l : List Nat} {m c : Nat} (h : l[m]? = some c) : l0 ++ l.take (m + 1) = (l0 ++ l.take m) ++ [c] := by
  rw [List.take_add_one, h, List.append_assoc]
  rfl

def BytesRel (B : Nat) (w : World) (g : Nat) (l0 l : List Nat) (k : Nat) (i : Value) (wr : World) : Prop :=
  ∃ m, m + k = l.length ∧ i = .int .i64 (m : Int) ∧ SumOf wr g (l0 ++ l.take m) ∧ Below B w wr

set_option maxRecDepth 100000 in
theorem add_bytes {w : World} {A : Option Addr} {c g B : Nat} {l0 l : List Nat} (h : SumOf w g l0) (hl : Bts w B A l) (hs : Sml l) (hn : l.length ≤ 100000) (hn0 : l0.length ≤ 100000) (hB : B ≤ g) :
    Calls Try.prog 13 #[.pointer (some ⟨g, 0, none⟩), .slice A l.length c] w (Took B w g (l0 ++ l)) := by
  have H := Lib.hid h
  have HL := Lib.hid hl
  have HS := Lib.hid hs
  clear h hl hs
  go_enter Try.func13, Try.ntmps13
  go_wp2_with fail
  go_loopg [8] l.length (fun k i wr => BytesRel B w g l0 l k i wr)
  case atStart => exact ⟨0, by simp, rfl, by rw [List.take_zero, List.append_nil]; exact H.out, Below.refl _ _⟩
  case round =>
    obtain ⟨m, hmk, hi, hsum, hb⟩ := hrel
    subst hi
    have HB := Lib.hid hb
    have HU := Lib.hid hsum
    cases gk with
    | zero =>
      have hge : l.length ≤ m := by omega
      clear hb hsum
      go_wp2_with fail
      go_end0
      have e := HU.out
      rw [List.take_of_length_le hge] at e
      exact ⟨rfl, e, HB.out⟩
    | succ j =>
      have hm : m < l.length := by omega
      obtain ⟨x, hx⟩ : ∃ x, l[m]? = some x := ⟨_, List.getElem?_eq_getElem hm⟩
      obtain ⟨b, o, rfl, hlt, hcells⟩ := HL.out (by omega)
      have cx := (hb.cell (p := ⟨b, o + m, none⟩) hlt).trans (hcells m x hx)
      have hx8 := HS.out.at hx
      have H17 := Lib.hid (sum_add hsum (by simp; omega) hx8 hB)
      have HN := Lib.hid (take_snoc (l0 := l0) hx)
      have HM := Lib.hid hmk
      clear hmk hx hcells hb hsum
      go_wp2_with fail
      refine H17.out.mono ?_
      rintro e w1 ⟨rfl, h1, h2⟩
      have HU1 := Lib.hid h1
      have HB1 := Lib.hid (HB.out.trans h2)
      clear h1 h2 cx
      go_wp2_with fail
      go_roundg j
      case measure => omega
      case rel => exact ⟨m + 1, by have := HM.out; omega, by go_num, by rw [HN.out]; exact HU1.out, HB1.out⟩

def NumRel (B : Nat) (w : World) (g : Nat) (l0 : List Nat) (n : Nat) (k : Nat) (v i : Value) (wr : World) : Prop :=
  ∃ m, m + k = 8 ∧ i = .int .i64 (m : Int) ∧ v = .int .u64 ((n / 256 ^ m : Nat) : Int) ∧ SumOf wr g (l0 ++ lek m n) ∧ Below B w wr

set_option maxRecDepth 100000 in
theorem add_number {w : World} {g B n : Nat} {l0 : List Nat} (h : SumOf w g l0) (hn : n < 18446744073709551616) (hn0 : l0.length ≤ 300000) (hB : B ≤ g) :
    Calls Try.prog 16 #[.pointer (some ⟨g, 0, none⟩), .int .u64 (n : Int)] w (Took B w g (l0 ++ le8 n)) := by
  have H := Lib.hid h
  clear h
  go_enter Try.func16, Try.ntmps16
  go_wp2_with fail
  go_loopg [1, 4] 8 (fun k v i wr => NumRel B w g l0 n k v i wr)
  case atStart => exact ⟨0, by simp, rfl, by simp, by simpa [lek] using H.out, Below.refl _ _⟩
  case round =>
    obtain ⟨m, hmk, hi, hv, hsum, hb⟩ := hrel
    subst hi hv
    have HB := Lib.hid hb
    have HU := Lib.hid hsum
    cases gk with
    | zero =>
      have hge : 8 ≤ m := by omega
      have hm8 : Hid (m = 8) := by unfold Hid; omega
      clear hb hsum
      go_wp2_with fail
      go_end0
      have e := HU.out
      rw [hm8.out] at e
      exact ⟨rfl, e, HB.out⟩
    | succ j =>
      have hm : m < 8 := by omega
      have HN := Lib.hid (lek_snoc m n)
      have HD := Lib.hid (div_next n m)
      have hu : n / 256 ^ m < 18446744073709551616 := Nat.lt_of_le_of_lt (Nat.div_le_self _ _) hn
      obtain ⟨u, hue⟩ : ∃ u, u = n / 256 ^ m := ⟨_, rfl⟩
      rw [← hue] at HN HD hu ⊢
      obtain ⟨x, hx⟩ : ∃ x, x = u % 256 := ⟨_, rfl⟩
      have hx8 : x < 256 := by omega
      have t0 : (u : Int) % 256 = (x : Int) := by omega
      rw [← hx] at HN
      have H17 := Lib.hid (sum_add hsum (by rw [List.length_append, lek_length]; omega) hx8 hB)
      have HM := Lib.hid hmk
      clear hmk hb hsum hue hx
      go_wp2_with fail
      refine H17.out.mono ?_
      rintro e w1 ⟨rfl, h1, h2⟩
      have HU1 := Lib.hid h1
      have HB1 := Lib.hid (HB.out.trans h2)
      clear h1 h2
      go_wp2_with fail
      go_roundg j
      case measure => omega
      case rel => exact ⟨m + 1, by have := HM.out; omega, by go_num, by rw [← HD.out]; simp, by rw [HN.out, ← List.append_assoc]; exact HU1.out, HB1.out⟩
end Go.Proofs.Ytgjccgdnhccndaa
