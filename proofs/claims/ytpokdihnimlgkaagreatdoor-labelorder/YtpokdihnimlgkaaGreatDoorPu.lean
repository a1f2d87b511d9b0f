/- label.Put. -/
import Derived.Test.YtpokdihnimlgkaaGreatDoorTg
import Derived.Test.YtpokdihnimlgkaaGreatDoorFl
namespace Go.Proofs.YtpokdihnimlgkaaGreatDoor
open Go.RowKit

/-- The bytes of an entry, of a label. -/
def numBytes (n : Int) : List Nat := if 0 ≤ n ∧ n ≤ 4611686018427387903 then Tp.enc n.toNat else []
def entBytes (e : Ent) : List Nat := Tp.txt (str e.1) ++ numBytes e.2
def labBytes (l : List Ent) : List Nat := Tp.enc l.length ++ l.flatMap entBytes
theorem entBytes_len {e : Ent} (h : e.1.length ≤ 3000) : (entBytes e).length ≤ 3018 := by
  have h1 := Tp.enc_nine (n := e.1.length) (by omega)
  have h2 : (numBytes e.2).length ≤ 9 := by
    unfold numBytes
    split
    · exact Tp.enc_nine (by omega)
    · simp
  unfold entBytes Tp.txt
  rw [List.length_append, List.length_append, Tp.bys_length, str_size]
  omega
theorem flat_len : ∀ l : List Ent, (∀ e ∈ l, e.1.length ≤ 3000) → (l.flatMap entBytes).length ≤ 3018 * l.length
  | [], _ => by simp
  | x :: r, h => by
    have h1 := flat_len r fun e he => h e (List.mem_cons_of_mem _ he)
    have h2 := entBytes_len (h x (by simp))
    rw [List.flatMap_cons, List.length_append, List.length_cons]
    omega

/-- A pen in block g, it and its bytes not below block B. -/
def PenB (w : World) (B g : Nat) (l : List Nat) : Prop := ∃ k, Tp.PenAt w g k l ∧ B ≤ g ∧ ∀ j, k = some j → B ≤ j
theorem PenB.step {w w' : World} {B g : Nat} {k : Option Nat} {l' : List Nat} (hg : B ≤ g) (hk : ∀ j, k = some j → B ≤ j) (hs : B ≤ w.heap.size) (h : Tp.Wrote w g k l' w') : PenB w' B g l' ∧ Below B w w' := by
  obtain ⟨k0, h1, h2, h3⟩ := h
  refine ⟨⟨k0, h1, hg, fun j hj => ?_⟩, h3.below hs fun i hi => ?_⟩
  · rcases h2 with h | ⟨i, h, hi⟩
    · exact hk j (h.symm.trans hj)
    · rw [h] at hj
      injection hj with hj
      omega
  · rcases hi with rfl | hi
    · exact hg
    · exact hk i hi
theorem PenB.kept {w w' : World} {B g : Nat} {l : List Nat} (h : PenB w B g l) (hb : Below w.heap.size w w') : PenB w' B g l := by
  obtain ⟨k, h1, h2, h3⟩ := h
  exact ⟨k, h1.kp (Tp.Kp.of_below hb (fun _ => False)) (fun h => h) (fun _ _ h => h), h2, h3⟩

def PutRel (w : World) (B g : Nat) (p : List Nat) (l : List Ent) (k : Nat) (i : Value) (wr : World) : Prop :=
  ∃ m, m + k = l.length ∧ i = .int .i64 (m : Int) ∧ PenB wr B g (p ++ Tp.enc l.length ++ (l.take m).flatMap entBytes) ∧ Below B w wr

set_option maxRecDepth 100000 in
set_option maxHeartbeats 1000000 in
theorem put_any {w : World} {B g : Nat} {A : Option Addr} {c : Nat} {l : List Ent} (hp : PenB w B g []) (hs : B ≤ w.heap.size) (hl : Ents w B A l) (hn : l.length ≤ 30) (hx : ∀ e ∈ l, e.1.length ≤ 3000) :
    Calls Tryz.prog 13 #[.pointer (some ⟨g, 0, none⟩), .slice A l.length c] w fun e w' => e = .returned (.tuple #[]) ∧ PenB w' B g (labBytes l) ∧ Below B w w' := by
  have HL := Lib.hid hl
  have HX := Lib.hid hx
  have HFL := Lib.hid (flat_len l hx)
  obtain ⟨k0, hp0, hg, hk0⟩ := hp
  have HN := Lib.hid (Tp.pen_number (n := l.length) hp0 (by omega) (by simp))
  have HK0 := Lib.hid hk0
  have HGL := Lib.hid (Tp.enc_nine (n := l.length) (by omega))
  clear hl hx hp0 hk0
  go_enter Tryz.func13, Tryz.ntmps13
  go_wp2_with fail
  refine HN.out.mono ?_
  rintro e w1 ⟨rfl, hw⟩
  obtain ⟨P1, hb1⟩ := PenB.step hg HK0.out hs hw
  have HP1 := Lib.hid P1
  have B1 := Lib.hid hb1
  clear hw P1 hb1 HN
  go_wp2_with fail
  go_loopg [12] l.length (fun k i wr => PutRel w B g [] l k i wr)
  case atStart => exact ⟨0, by simp, rfl, by simpa using HP1.out, B1.out⟩
  case round =>
    obtain ⟨m, hmk, hi, hpen, hb⟩ := hrel
    subst hi
    have HB := Lib.hid hb
    have HP := Lib.hid hpen
    have hsz := hb.size
    cases gk with
    | zero =>
      have hge : l.length ≤ m := by omega
      have HF : Hid (PenB wr B g (labBytes l)) := by
        have := hpen
        rw [List.take_of_length_le hge, List.nil_append] at this
        exact this
      clear hpen hb
      go_wp2_with fail
      go_end0
      exact ⟨rfl, HF.out, HB.out⟩
    | succ j =>
      have hm : m < l.length := by omega
      obtain ⟨⟨t, n⟩, hx⟩ : ∃ x, l[m]? = some x := ⟨_, List.getElem?_eq_getElem hm⟩
      obtain ⟨b, o, rfl, hlt, hcells⟩ := (HL.out.below hb) (by omega)
      obtain ⟨c1, c2⟩ := hcells m t n hx
      have HM := Lib.hid hmk
      have HXM := Lib.hid hx
      have htl : t.length ≤ 3000 := HX.out _ (List.mem_of_getElem? hx)
      obtain ⟨W0, hW0⟩ : ∃ W0, W0 = wr.alloc (.cells #[.string (str t), .int .i64 n] 33) := ⟨_, rfl⟩
      have hB0 : Below wr.heap.size wr W0 := by rw [hW0]; exact (Below.refl _ _).alloc (Nat.le_refl _) _
      obtain ⟨k1, hpw, _, hk1⟩ := hpen
      have hkl := hpw.row_lt
      have hgw := hpw.lt
      obtain ⟨pb, hpb⟩ : ∃ pb, pb = [] ++ Tp.enc l.length ++ (l.take m).flatMap entBytes := ⟨_, rfl⟩
      rw [← hpb] at hpw
      have hp1 : Tp.PenAt W0 g k1 pb := hpw.kp (Tp.Kp.of_below hB0 (fun _ => False)) (fun h => h) (fun _ _ h => h)
      have hpl : pb.length ≤ 600000 := by
        have h1 := HGL.out
        have h2 := flat_len (l.take m) fun e he => HX.out e (List.mem_of_mem_take he)
        rw [List.length_take] at h2
        rw [hpb, List.nil_append, List.length_append]
        have : 3018 * min m l.length ≤ 3018 * 30 := Nat.mul_le_mul_left _ (by omega)
        omega
      have HPB : Hid (pb ++ Tp.txt (str t) ++ numBytes n = [] ++ Tp.enc l.length ++ (l.take (m + 1)).flatMap entBytes) := by
        unfold Hid
        rw [List.take_add_one, hx, List.flatMap_append, hpb]
        simp [entBytes]
      have hTl : (Tp.txt (str t)).length ≤ 3009 := by
        have h1 := Tp.enc_nine (n := t.length) (by omega)
        unfold Tp.txt
        rw [List.length_append, Tp.bys_length, str_size]
        omega
      have k0 : W0.cell? ⟨wr.heap.size, 0, none⟩ = some (.string (str t)) := by rw [hW0]; simp
      have k1c : W0.cell? ⟨wr.heap.size, 1, none⟩ = some (.int .i64 n) := by rw [hW0]; simp
      have K1 := Lib.hid k1c
      have hs0 : B ≤ W0.heap.size := by have := HB.out.size; have := hB0.size; omega
      have HNO : Hid (¬ Tp.Own g k1 wr.heap.size) := fun h => by
        rcases h with h | h
        · omega
        · have := hkl _ h
          omega
      have H39 := Lib.hid (Tp.pen_text hp1 (by omega) (str t) (by rw [str_size]; exact htl))
      have HK1 := Lib.hid hk1
      have HW0 := Lib.hid hW0
      have HB0 := Lib.hid hB0
      clear hcells hx hmk hb hB0 hW0 hp1 hk1 hpb hpw hkl k1c
      go_wp2_with fail
      rw [← HW0.out]
      refine H39.out.mono ?_
      rintro e w2 ⟨rfl, hw⟩
      have c4 : w2.cell? ⟨wr.heap.size, 1, none⟩ = some (.int .i64 n) := by
        obtain ⟨_, _, _, hkp⟩ := hw
        exact hkp.cell K1.out HNO.out
      obtain ⟨P2, hb2⟩ := PenB.step hg HK1.out hs0 hw
      have B2 : Hid (Below B w w2) := (HB.out.trans (HB0.out.mono (by have := HB.out.size; omega))).trans hb2
      have hs2 := hb2.size
      obtain ⟨k2, hp2, _, hk2⟩ := P2
      have HP2 := Lib.hid hp2
      have HK2 := Lib.hid hk2
      clear hw hb2 H39 hp2 hk2 k0
      by_cases hin : 0 ≤ n ∧ n ≤ 4611686018427387903
      · obtain ⟨u, hu⟩ : ∃ u : Nat, (u : Int) = n := ⟨n.toNat, by omega⟩
        subst hu
        have HNB : Hid (numBytes (u : Int) = Tp.enc u) := by unfold Hid numBytes; rw [if_pos hin, Int.toNat_natCast]
        have H38 := Lib.hid (Tp.pen_number (n := u) HP2.out (by omega) (by rw [List.length_append]; omega))
        clear hin
        go_wp2_with fail
        refine H38.out.mono ?_
        rintro e w3 ⟨rfl, hw⟩
        obtain ⟨P3, hb3⟩ := PenB.step hg HK2.out (by omega) hw
        have HP3 : Hid (PenB w3 B g ([] ++ Tp.enc l.length ++ (l.take (m + 1)).flatMap entBytes)) := by rw [← HPB.out, HNB.out]; exact P3
        have B3 := Lib.hid (B2.out.trans hb3)
        clear hw P3 hb3 H38 c4 c1 c2
        go_wp2_with fail
        go_roundg j
        case measure => omega
        case rel => exact ⟨m + 1, by have := HM.out; omega, by go_num, HP3.out, B3.out⟩
      · have HNB : Hid (numBytes n = []) := by unfold Hid numBytes; rw [if_neg hin]
        have H38 := Lib.hid (Tp.pen_refuse w2 g (n := n) (by omega))
        have HP3 : Hid (PenB w2 B g ([] ++ Tp.enc l.length ++ (l.take (m + 1)).flatMap entBytes)) := by
          rw [← HPB.out, HNB.out, List.append_nil]
          exact ⟨k2, HP2.out, hg, HK2.out⟩
        clear hin
        go_wp2_with fail
        refine H38.out.mono ?_
        rintro e w3 ⟨rfl, rfl⟩
        clear H38 c4 c1 c2
        go_wp2_with fail
        go_roundg j
        case measure => omega
        case rel => exact ⟨m + 1, by have := HM.out; omega, by go_num, HP3.out, B2.out⟩

def NilRel (w : World) (l : List Ent) (k : Nat) (i : Value) (wr : World) : Prop :=
  ∃ m, m + k = l.length ∧ i = .int .i64 (m : Int) ∧ Below w.heap.size w wr
set_option maxRecDepth 100000 in
theorem putNil_any {w : World} {A : Option Addr} {c : Nat} {l : List Ent} (hl : Ents w w.heap.size A l) (hn : l.length ≤ 1000000) :
    Calls Tryz.prog 13 #[.pointer none, .slice A l.length c] w (RetB w (.tuple #[])) := by
  have HL := Lib.hid hl
  clear hl
  go_enter Tryz.func13, Tryz.ntmps13
  go_wp2_with (go_at_call 38; refine (Tp.nil_number _ _).mono ?_; rintro e w' ⟨rfl, rfl⟩)
  go_loopg [12] l.length (fun k i wr => NilRel w l k i wr)
  case atStart => exact ⟨0, by simp, rfl, Below.refl _ _⟩
  case round =>
    obtain ⟨m, hmk, hi, hb⟩ := hrel
    subst hi
    have HB := Lib.hid hb
    have hsz := hb.size
    cases gk with
    | zero =>
      have hge : l.length ≤ m := by omega
      clear hb
      go_wp2_with fail
      go_end0
      exact ⟨rfl, HB.out⟩
    | succ j =>
      have hm : m < l.length := by omega
      obtain ⟨⟨t, n⟩, hx⟩ : ∃ x, l[m]? = some x := ⟨_, List.getElem?_eq_getElem hm⟩
      obtain ⟨b, o, rfl, hlt, hcells⟩ := (HL.out.below hb) (by omega)
      obtain ⟨c1, c2⟩ := hcells m t n hx
      have HM := Lib.hid hmk
      clear hcells hx hmk hb
      go_wp2_with (first
        | (go_at_call 38; refine (Tp.nil_number _ _).mono ?_; rintro e w' ⟨rfl, rfl⟩)
        | (go_at_call 39; refine (Tp.nil_text _ _).mono ?_; rintro e w' ⟨rfl, rfl⟩))
      go_roundg j
      case measure => omega
      case rel => exact ⟨m + 1, by have := HM.out; omega, by go_num, HB.out.alloc hsz _⟩
end Go.Proofs.YtpokdihnimlgkaaGreatDoor
