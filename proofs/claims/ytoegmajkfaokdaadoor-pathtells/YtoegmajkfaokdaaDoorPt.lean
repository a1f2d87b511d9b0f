/- path.Put and the reference's. -/
import Derived.Test.YtoegmajkfaokdaaDoorRi
import Derived.Test.YtoegmajkfaokdaaDoorTd
namespace Go.Proofs.YtoegmajkfaokdaaDoor
open Go.RowKit

/-- A pen in block g, it and its bytes not below block B. -/
def PenB (w : World) (B g : Nat) (l : List Nat) : Prop := ∃ k, Tp.PenAt w g k l ∧ B ≤ g ∧ ∀ j, k = some j → B ≤ j
theorem PenB.step {w w' : World} {B g : Nat} {k : Option Nat} {l' : List Nat} (hg : B ≤ g) (hk : ∀ j, k = some j → B ≤ j) (hs : B ≤ w.heap.size) (h : Tp.Wrote w g k l' w') : PenB w' B g l' ∧ Below B w w' := by
  obtain ⟨k0, h1, h2, h3⟩ := h
  refine ⟨⟨k0, h1, hg, fun j hj => ?_⟩, h3.below hs fun i hi => ?_⟩
  · rcases h2 with h | ⟨i, h, hi⟩
    · exact hk j (h.symm.trans hj)
    · rw [h] at hj
      injection hj with hj
      omega
  · rcases hi with rfl | hi
    · exact hg
    · exact hk i hi
theorem PenB.kept {w w' : World} {B g : Nat} {l : List Nat} (h : PenB w B g l) (hb : Below w.heap.size w w') : PenB w' B g l := by
  obtain ⟨k, h1, h2, h3⟩ := h
  exact ⟨k, h1.kp (Tp.Kp.of_below hb (fun _ => False)) (fun h => h) (fun _ _ h => h), h2, h3⟩

/-- (*Pen).Number at any number: what no tape has is left out. -/
theorem pen_any {w : World} {B g : Nat} {l : List Nat} {z : Int} (hp : PenB w B g l) (hs : B ≤ w.heap.size) (hl : l.length ≤ 800000) :
    Calls Tryd.prog 39 #[.pointer (some ⟨g, 0, none⟩), .int .i64 z] w fun e w' => (∃ b, e = .returned (.bool b)) ∧ PenB w' B g (l ++ encZ z) ∧ Below B w w' := by
  by_cases hz : 0 ≤ z ∧ z ≤ 4611686018427387903
  · obtain ⟨k, h1, h2, h3⟩ := hp
    have e : encZ z = Tp.enc z.toNat := by unfold encZ; rw [if_pos hz]
    have ez : z = ((z.toNat : Nat) : Int) := by omega
    rw [e]
    have h := Tp.pen_number (n := z.toNat) h1 (by omega) (by omega)
    rw [← ez] at h
    refine h.mono ?_
    rintro e w' ⟨rfl, hw⟩
    exact ⟨⟨_, rfl⟩, PenB.step h2 h3 hs hw⟩
  · have e : encZ z = [] := by unfold encZ; rw [if_neg hz]
    rw [e, List.append_nil]
    refine (Tp.pen_refuse w g (n := z) (by omega)).mono ?_
    rintro e w' ⟨rfl, rfl⟩
    exact ⟨⟨_, rfl⟩, hp, Below.refl _ _⟩

def PutRel (w : World) (B g : Nat) (l : List Int) (k : Nat) (i : Value) (wr : World) : Prop :=
  ∃ m, m + k = l.length ∧ i = .int .i64 (m : Int) ∧ PenB wr B g (Tp.enc l.length ++ (l.take m).flatMap encZ) ∧ Below B w wr

set_option maxRecDepth 100000 in
theorem put_any {w : World} {B g : Nat} {A : Option Addr} {c : Nat} {l : List Int} (hp : PenB w B g []) (hs : B ≤ w.heap.size) (hl : Zs w B A l) (hn : l.length ≤ 1000) :
    Calls Tryd.prog 18 #[.pointer (some ⟨g, 0, none⟩), .slice A l.length c] w fun e w' => e = .returned (.tuple #[]) ∧ PenB w' B g (zBytes l) ∧ Below B w w' := by
  have HL := Lib.hid hl
  have hq : encZ (l.length : Int) = Tp.enc l.length := by unfold encZ; rw [if_pos (by omega)]; simp
  have HN := Lib.hid (pen_any (z := (l.length : Int)) hp hs (by simp))
  rw [hq] at HN
  have HGL := Lib.hid (Tp.enc_nine (n := l.length) (by omega))
  clear hl hp hq
  go_enter Tryd.func18, Tryd.ntmps18
  go_wp2_with fail
  refine HN.out.mono ?_
  rintro e w1 ⟨⟨b0, rfl⟩, hp1, hb1⟩
  have HP1 := Lib.hid hp1
  have B1 := Lib.hid hb1
  clear hp1 hb1 HN
  go_wp2_with fail
  go_loopg [12] l.length (fun k i wr => PutRel w B g l k i wr)
  case atStart => exact ⟨0, by simp, rfl, by simpa using HP1.out, B1.out⟩
  case round =>
    obtain ⟨m, hmk, hi, hpen, hb⟩ := hrel
    subst hi
    have HB := Lib.hid hb
    have hsz := hb.size
    cases gk with
    | zero =>
      have hge : l.length ≤ m := by omega
      have HF : Hid (PenB wr B g (zBytes l)) := by
        have := hpen
        rw [List.take_of_length_le hge] at this
        exact this
      clear hpen hb
      go_wp2_with fail
      go_end0
      exact ⟨rfl, HF.out, HB.out⟩
    | succ j =>
      have hm : m < l.length := by omega
      obtain ⟨z, hx⟩ : ∃ x, l[m]? = some x := ⟨_, List.getElem?_eq_getElem hm⟩
      obtain ⟨b, o, rfl, hlt, hcells⟩ := (HL.out.below hb) (by omega)
      have c1 := hcells m z hx
      have HM := Lib.hid hmk
      obtain ⟨pb, hpb⟩ : ∃ pb, pb = Tp.enc l.length ++ (l.take m).flatMap encZ := ⟨_, rfl⟩
      rw [← hpb] at hpen
      have hpl : pb.length ≤ 600000 := by
        have h1 := HGL.out
        have h2 := flatZ_len (l.take m)
        rw [List.length_take] at h2
        rw [hpb, List.length_append]
        omega
      have HPB : Hid (pb ++ encZ z = Tp.enc l.length ++ (l.take (m + 1)).flatMap encZ) := by
        unfold Hid
        rw [take_snoc hx, List.flatMap_append, hpb]
        simp
      have hs0 : B ≤ wr.heap.size := by omega
      have H39 := Lib.hid (pen_any (z := z) hpen hs0 (by omega))
      clear hcells hx hmk hb hpb hpen
      go_wp2_with fail
      refine H39.out.mono ?_
      rintro e w2 ⟨⟨b1, rfl⟩, hp2, hb2⟩
      have B2 : Hid (Below B w w2) := HB.out.trans hb2
      have HP2 : Hid (PenB w2 B g (Tp.enc l.length ++ (l.take (m + 1)).flatMap encZ)) := by rw [← HPB.out]; exact hp2
      clear hb2 H39 hp2 c1
      go_wp2_with fail
      go_roundg j
      case measure => omega
      case rel => exact ⟨m + 1, by have := HM.out; omega, by go_num, HP2.out, B2.out⟩

def RpRel (w : World) (l : List Int) (k : Nat) (s i : Value) (wr : World) : Prop :=
  ∃ m, m + k = l.length ∧ i = .int .i64 (m : Int) ∧ s = .string (Tp.str (Tp.enc l.length ++ (l.take m).flatMap encZ)) ∧ Below w.heap.size w wr

set_option maxRecDepth 100000 in
theorem refPut_any {w : World} {A : Option Addr} {c : Nat} {l : List Int} (hl : Zs w w.heap.size A l) (hn : l.length ≤ 1000) :
    Calls Tryd.prog 20 #[.slice A l.length c] w (RetB w (.string (Tp.str (zBytes l)))) := by
  have HL := Lib.hid hl
  have HN := Lib.hid (Tp.ref_number l.length (by omega) w)
  have HGL := Lib.hid (Tp.enc_nine (n := l.length) (by omega))
  clear hl
  go_enter Tryd.func20, Tryd.ntmps20
  go_wp2_with fail
  refine HN.out.mono ?_
  rintro e w1 ⟨rfl, hb1⟩
  have B1 := Lib.hid hb1
  clear hb1 HN
  go_wp2_with fail
  go_loopg [3, 11] l.length (fun k s i wr => RpRel w l k s i wr)
  case atStart => exact ⟨0, by simp, rfl, by simp, B1.out⟩
  case round =>
    obtain ⟨m, hmk, hi, hs, hb⟩ := hrel
    subst hi hs
    have HB := Lib.hid hb
    cases gk with
    | zero =>
      have hge : l.length ≤ m := by omega
      rw [List.take_of_length_le hge]
      clear hb
      go_wp2_with fail
      go_ret
      exact ⟨rfl, HB.out⟩
    | succ j =>
      have hm : m < l.length := by omega
      obtain ⟨z, hx⟩ : ∃ x, l[m]? = some x := ⟨_, List.getElem?_eq_getElem hm⟩
      obtain ⟨b, o, rfl, hlt, hcells⟩ := (HL.out.below hb) (by omega)
      have c1 := hcells m z hx
      have HM := Lib.hid hmk
      have hsz := hb.size
      obtain ⟨pb, hpb⟩ : ∃ pb, pb = Tp.enc l.length ++ (l.take m).flatMap encZ := ⟨_, rfl⟩
      rw [← hpb]
      have hpl : pb.length ≤ 600000 := by
        have h1 := HGL.out
        have h2 := flatZ_len (l.take m)
        rw [List.length_take] at h2
        rw [hpb, List.length_append]
        omega
      have HPB : Hid (Tp.enc l.length ++ (l.take (m + 1)).flatMap encZ = pb ++ encZ z) := by
        unfold Hid
        rw [take_snoc hx, List.flatMap_append, hpb]
        simp
      by_cases h0 : 0 ≤ z
      · by_cases h1 : z ≤ 4611686018427387903
        · have e : encZ z = Tp.enc z.toNat := by unfold encZ; rw [if_pos ⟨h0, h1⟩]
          have ez : ((z.toNat : Nat) : Int) = z := by omega
          have H41 := Tp.ref_number z.toNat (by omega) wr
          rw [ez] at H41
          have H41 := Lib.hid H41
          rw [e] at HPB
          obtain ⟨q, hq⟩ : ∃ q, q = Tp.enc z.toNat := ⟨_, rfl⟩
          rw [← hq] at H41 HPB
          have hql : q.length ≤ 9 := by rw [hq]; exact Tp.enc_nine (by omega)
          have a1 : ∀ W : World, (Op.stringOp .add (Tp.str pb) (Tp.str q)).run Tryd.prog W = .ok (.string (Tp.str (pb ++ q))) W := fun W => by
            rw [← Tp.str_append]
            exact Tp.add_str W (by rw [Tp.str_size]; omega) (by rw [Tp.str_size]; omega)
          clear hcells hx hmk hb hpb e ez hq
          go_wp2_with fail
          refine H41.out.mono ?_
          rintro e w2 ⟨rfl, hb2⟩
          have B2 : Hid (Below w.heap.size w w2) := HB.out.trans (hb2.mono hsz)
          clear hb2 H41 c1
          go_wp2_with fail
          go_roundg j
          case measure => omega
          case rel => exact ⟨m + 1, by have := HM.out; omega, by go_num, by rw [HPB.out], B2.out⟩
        · have e : encZ z = [] := by unfold encZ; rw [if_neg (by omega)]
          rw [e, List.append_nil] at HPB
          clear hcells hx hmk hb hpb e
          go_wp2_with fail
          go_roundg j
          case measure => omega
          case rel => exact ⟨m + 1, by have := HM.out; omega, by go_num, by rw [HPB.out], HB.out⟩
      · have e : encZ z = [] := by unfold encZ; rw [if_neg (by omega)]
        rw [e, List.append_nil] at HPB
        clear hcells hx hmk hb hpb e
        go_wp2_with fail
        go_roundg j
        case measure => omega
        case rel => exact ⟨m + 1, by have := HM.out; omega, by go_num, by rw [HPB.out], HB.out⟩
end Go.Proofs.YtoegmajkfaokdaaDoor
