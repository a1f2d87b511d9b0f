/- The reference's Put. -/
import Derived.Test.YtglidfmgechneaaGreatDoorPn
import Derived.Test.YtglidfmgechneaaGreatDoorTd
namespace Go.Proofs.YtglidfmgechneaaGreatDoor
open Go.RowKit

def RpRel (w : World) (l : List (List UInt8)) (k : Nat) (s i : Value) (wr : World) : Prop :=
  ∃ m, m + k = l.length ∧ i = .int .i64 (m : Int) ∧ s = .string (Tp.str (Tp.enc l.length ++ (l.take m).flatMap catBytes)) ∧ Below w.heap.size w wr

set_option maxRecDepth 100000 in
set_option maxHeartbeats 1000000 in
theorem refPut_any {w : World} {A : Option Addr} {c : Nat} {l : List (List UInt8)} (hl : Strs w w.heap.size A l) (hn : l.length ≤ 30) (hx : ∀ x ∈ l, x.length ≤ 3000) :
    Calls Tryz.prog 24 #[.slice A l.length c] w (RetB w (.string (Tp.str (ownBytes l)))) := by
  have HL := Lib.hid hl
  have HX := Lib.hid hx
  have H45 := Lib.hid (Tp.ref_number l.length (by omega) w)
  have HGL := Lib.hid (Tp.enc_nine (n := l.length) (by omega))
  clear hl hx
  go_enter Tryz.func24, Tryz.ntmps24
  go_wp2_with fail
  refine H45.out.mono ?_
  rintro e w1 ⟨rfl, hb1⟩
  have B1 := Lib.hid hb1
  clear hb1 H45
  go_wp2_with fail
  go_loopg [3, 11] l.length (fun k s i wr => RpRel w l k s i wr)
  case atStart => exact ⟨0, by simp, rfl, by simp, B1.out⟩
  case round =>
    obtain ⟨m, hmk, hi, hs, hb⟩ := hrel
    subst hi hs
    have HB := Lib.hid hb
    have hsz := hb.size
    cases gk with
    | zero =>
      have hge : l.length ≤ m := by omega
      rw [List.take_of_length_le hge]
      have HD : Hid (ownBytes l = Tp.enc l.length ++ l.flatMap catBytes) := rfl
      rw [← HD.out]
      clear hb
      go_wp2_with fail
      go_ret
      exact ⟨rfl, HB.out⟩
    | succ j =>
      have hm : m < l.length := by omega
      obtain ⟨t, hx⟩ : ∃ x, l[m]? = some x := ⟨_, List.getElem?_eq_getElem hm⟩
      obtain ⟨b, o, rfl, hlt, hcells⟩ := (HL.out.below hb) (by omega)
      have c1 := hcells m t hx
      have HM := Lib.hid hmk
      have htl : t.length ≤ 3000 := HX.out _ (List.mem_of_getElem? hx)
      obtain ⟨pb, hpb⟩ : ∃ pb, pb = Tp.enc l.length ++ (l.take m).flatMap catBytes := ⟨_, rfl⟩
      have hpl : pb.length ≤ 600000 := by
        have h1 := HGL.out
        have h2 := flatC_len (l.take m) fun e he => HX.out e (List.mem_of_mem_take he)
        rw [List.length_take] at h2
        rw [hpb, List.length_append]
        have : 3009 * min m l.length ≤ 3009 * 30 := Nat.mul_le_mul_left _ (by omega)
        omega
      have HPB : Hid (pb ++ Tp.txt (str t) = Tp.enc l.length ++ (l.take (m + 1)).flatMap catBytes) := by
        unfold Hid
        rw [List.take_add_one, hx, List.flatMap_append, hpb]
        simp [catBytes]
      rw [← hpb]
      have hTl : (Tp.txt (str t)).length ≤ 3009 := by
        have h1 := Tp.enc_nine (n := t.length) (by omega)
        unfold Tp.txt
        rw [List.length_append, Tp.bys_length, str_size]
        omega
      have H46 := Lib.hid (Tp.ref_text wr (str t) (by rw [str_size]; exact htl))
      obtain ⟨sT, hsT⟩ : ∃ sT, sT = Tp.txt (str t) := ⟨_, rfl⟩
      rw [← hsT] at H46 HPB hTl
      obtain ⟨q1, hq1⟩ : ∃ q1, q1 = pb ++ sT := ⟨_, rfl⟩
      rw [← hq1] at HPB
      have hq1l : q1.length ≤ 700000 := by rw [hq1, List.length_append]; omega
      have a1 : ∀ W : World, (Op.stringOp .add (Tp.str pb) (Tp.str sT)).run Tryz.prog W = .ok (.string (Tp.str q1)) W := fun W => by
        rw [hq1, ← Tp.str_append]
        exact Tp.add_str W (by rw [Tp.str_size]; omega) (by rw [Tp.str_size]; omega)
      clear hcells hx hmk hb hpb hsT hq1
      go_wp2_with fail
      refine H46.out.mono ?_
      rintro e w2 ⟨rfl, hb2⟩
      have B2 : Hid (Below w.heap.size w w2) := HB.out.trans (hb2.mono hsz)
      clear hb2 H46 c1
      go_wp2_with fail
      go_roundg j
      case measure => omega
      case rel => exact ⟨m + 1, by have := HM.out; omega, by go_num, by rw [← HPB.out], B2.out⟩
end Go.Proofs.YtglidfmgechneaaGreatDoor
