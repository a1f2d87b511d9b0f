/- owns.Put. -/
import Derived.Test.YtglidfmgechneaaGreatDoorTg
import Derived.Test.YtglidfmgechneaaGreatDoorOa
namespace Go.Proofs.YtglidfmgechneaaGreatDoor
open Go.RowKit

/-- The bytes of a category, of a list of them. -/
def catBytes (x : List UInt8) : List Nat := Tp.txt (str x)
def ownBytes (l : List (List UInt8)) : List Nat := Tp.enc l.length ++ l.flatMap catBytes
theorem catBytes_len {x : List UInt8} (h : x.length ≤ 3000) : (catBytes x).length ≤ 3009 := by
  have h1 := Tp.enc_nine (n := x.length) (by omega)
  unfold catBytes Tp.txt
  rw [List.length_append, Tp.bys_length, str_size]
  omega
theorem flatC_len : ∀ l : List (List UInt8), (∀ x ∈ l, x.length ≤ 3000) → (l.flatMap catBytes).length ≤ 3009 * l.length
  | [], _ => by simp
  | x :: r, h => by
    have h1 := flatC_len r fun e he => h e (List.mem_cons_of_mem _ he)
    have h2 := catBytes_len (h x (by simp))
    rw [List.flatMap_cons, List.length_append, List.length_cons]
    omega

/-- A pen in block g, it and its bytes not below block B. -/
def PenB (w : World) (B g : Nat) (l : List Nat) : Prop := ∃ k, Tp.PenAt w g k l ∧ B ≤ g ∧ ∀ j, k = some j → B ≤ j
theorem PenB.step {w w' : World} {B g : Nat} {k : Option Nat} {l' : List Nat} (hg : B ≤ g) (hk : ∀ j, k = some j → B ≤ j) (hs : B ≤ w.heap.size) (h : Tp.Wrote w g k l' w') : PenB w' B g l' ∧ Below B w w' := by
  obtain ⟨k0, h1, h2, h3⟩ := h
  refine ⟨⟨k0, h1, hg, fun j hj => ?_⟩, h3.below hs fun i hi => ?_⟩
  · rcases h2 with h | ⟨i, h, hi⟩
    · exact hk j (h.symm.trans hj)
    · rw [h] at hj
      injection hj with hj
      omega
  · rcases hi with rfl | hi
    · exact hg
    · exact hk i hi
theorem PenB.kept {w w' : World} {B g : Nat} {l : List Nat} (h : PenB w B g l) (hb : Below w.heap.size w w') : PenB w' B g l := by
  obtain ⟨k, h1, h2, h3⟩ := h
  exact ⟨k, h1.kp (Tp.Kp.of_below hb (fun _ => False)) (fun h => h) (fun _ _ h => h), h2, h3⟩

def PutRel (w : World) (B g : Nat) (l : List (List UInt8)) (k : Nat) (i : Value) (wr : World) : Prop :=
  ∃ m, m + k = l.length ∧ i = .int .i64 (m : Int) ∧ PenB wr B g (Tp.enc l.length ++ (l.take m).flatMap catBytes) ∧ Below B w wr

set_option maxRecDepth 100000 in
set_option maxHeartbeats 1000000 in
theorem put_any {w : World} {B g : Nat} {A : Option Addr} {c : Nat} {l : List (List UInt8)} (hp : PenB w B g []) (hs : B ≤ w.heap.size) (hl : Strs w B A l) (hn : l.length ≤ 30) (hx : ∀ x ∈ l, x.length ≤ 3000) :
    Calls Tryz.prog 15 #[.pointer (some ⟨g, 0, none⟩), .slice A l.length c] w fun e w' => e = .returned (.tuple #[]) ∧ PenB w' B g (ownBytes l) ∧ Below B w w' := by
  have HL := Lib.hid hl
  have HX := Lib.hid hx
  obtain ⟨k0, hp0, hg, hk0⟩ := hp
  have HN := Lib.hid (Tp.pen_number (n := l.length) hp0 (by omega) (by simp))
  have HK0 := Lib.hid hk0
  have HGL := Lib.hid (Tp.enc_nine (n := l.length) (by omega))
  clear hl hx hp0 hk0
  go_enter Tryz.func15, Tryz.ntmps15
  go_wp2_with fail
  refine HN.out.mono ?_
  rintro e w1 ⟨rfl, hw⟩
  obtain ⟨P1, hb1⟩ := PenB.step hg HK0.out hs hw
  have HP1 := Lib.hid P1
  have B1 := Lib.hid hb1
  clear hw P1 hb1 HN
  go_wp2_with fail
  go_loopg [12] l.length (fun k i wr => PutRel w B g l k i wr)
  case atStart => exact ⟨0, by simp, rfl, by simpa using HP1.out, B1.out⟩
  case round =>
    obtain ⟨m, hmk, hi, hpen, hb⟩ := hrel
    subst hi
    have HB := Lib.hid hb
    have hsz := hb.size
    cases gk with
    | zero =>
      have hge : l.length ≤ m := by omega
      have HF : Hid (PenB wr B g (ownBytes l)) := by
        have := hpen
        rw [List.take_of_length_le hge] at this
        exact this
      clear hpen hb
      go_wp2_with fail
      go_end0
      exact ⟨rfl, HF.out, HB.out⟩
    | succ j =>
      have hm : m < l.length := by omega
      obtain ⟨t, hx⟩ : ∃ x, l[m]? = some x := ⟨_, List.getElem?_eq_getElem hm⟩
      obtain ⟨b, o, rfl, hlt, hcells⟩ := (HL.out.below hb) (by omega)
      have c1 := hcells m t hx
      have HM := Lib.hid hmk
      have htl : t.length ≤ 3000 := HX.out _ (List.mem_of_getElem? hx)
      obtain ⟨k1, hpw, _, hk1⟩ := hpen
      obtain ⟨pb, hpb⟩ : ∃ pb, pb = Tp.enc l.length ++ (l.take m).flatMap catBytes := ⟨_, rfl⟩
      rw [← hpb] at hpw
      have hpl : pb.length ≤ 600000 := by
        have h1 := HGL.out
        have h2 := flatC_len (l.take m) fun e he => HX.out e (List.mem_of_mem_take he)
        rw [List.length_take] at h2
        rw [hpb, List.length_append]
        have : 3009 * min m l.length ≤ 3009 * 30 := Nat.mul_le_mul_left _ (by omega)
        omega
      have HPB : Hid (pb ++ Tp.txt (str t) = Tp.enc l.length ++ (l.take (m + 1)).flatMap catBytes) := by
        unfold Hid
        rw [List.take_add_one, hx, List.flatMap_append, hpb]
        simp [catBytes]
      have hs0 : B ≤ wr.heap.size := by have := HB.out.size; omega
      have H39 := Lib.hid (Tp.pen_text hpw (by omega) (str t) (by rw [str_size]; exact htl))
      have HK1 := Lib.hid hk1
      clear hcells hx hmk hb hk1 hpb hpw
      go_wp2_with fail
      refine H39.out.mono ?_
      rintro e w2 ⟨rfl, hw⟩
      obtain ⟨P2, hb2⟩ := PenB.step hg HK1.out hs0 hw
      have B2 : Hid (Below B w w2) := HB.out.trans hb2
      have HP2 : Hid (PenB w2 B g (Tp.enc l.length ++ (l.take (m + 1)).flatMap catBytes)) := by rw [← HPB.out]; exact P2
      clear hw hb2 H39 P2 c1
      go_wp2_with fail
      go_roundg j
      case measure => omega
      case rel => exact ⟨m + 1, by have := HM.out; omega, by go_num, HP2.out, B2.out⟩
end Go.Proofs.YtglidfmgechneaaGreatDoor
