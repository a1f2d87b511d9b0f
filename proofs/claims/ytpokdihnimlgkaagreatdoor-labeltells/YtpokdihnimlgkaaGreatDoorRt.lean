/- The reference's Num at every number, Text, Put. -/
import Derived.Test.YtpokdihnimlgkaaGreatDoorH
import Derived.Lib.ItoaLen
import Derived.Test.YtpokdihnimlgkaaGreatDoorTx
import Derived.Test.YtpokdihnimlgkaaGreatDoorPu
import Derived.Test.YtpokdihnimlgkaaGreatDoorTd
namespace Go.Proofs.YtpokdihnimlgkaaGreatDoor
open Go.RowKit

theorem dec_len21 {u : Nat} (h : u ≤ 9223372036854775808) : (Lib.decDigits u).length ≤ 21 := by
  have h1 := Lib.itoa_length_le (-(u : Int)) (by omega) (by omega)
  by_cases h0 : u = 0
  · subst h0
    rw [Lib.decDigits_one (by omega)]
    simp
  · unfold Lib.itoa at h1
    rw [if_pos (by omega)] at h1
    simp at h1
    omega

def NumPos (u : Nat) (w : World) (k : Nat) (a s : Value) (wr : World) : Prop :=
  ∃ (v : Nat) (r : List UInt8), v = k ∧ v ≤ 9223372036854775807 ∧ a = .int .i64 (v : Int) ∧ s = .string (str r) ∧ Lib.decDigits v ++ r = Lib.decDigits u ∧ w = wr

set_option maxRecDepth 100000 in
theorem num_pos {u : Nat} (h : u ≤ 9223372036854775807) (w : World) : Calls Tryz.prog 71 #[.int .i64 (u : Int)] w fun e w' => e = .returned (.string (str (Lib.decDigits u))) ∧ w = w' := by
  have HL := Lib.hid (dec_len21 (u := u) (by omega))
  go_enter Tryz.func71, Tryz.ntmps71
  go_wp2_with fail
  go_loopg [0, 4] u (fun k a s wr => NumPos u w k a s wr)
  case atStart => exact ⟨u, [], rfl, h, rfl, rfl, by simp, rfl⟩
  case round =>
    obtain ⟨v, r, hk, hv, ha, hs, hd, hw⟩ := hrel
    subst hk ha hs hw
    have hlen : (Lib.decDigits v).length + r.length ≤ 21 := by
      have := HL.out
      rw [← hd, List.length_append] at this
      exact this
    have hp := dec_pos v
    by_cases h10 : v < 10
    · have q1 := dig_slice h10
      have q2 := str_add [UInt8.ofNat (48 + v)] r (by simp; omega)
      have HD : Hid ([UInt8.ofNat (48 + v)] ++ r = Lib.decDigits u) := by rw [← hd, Lib.decDigits_one h10]; exact rfl
      obtain ⟨c, hc⟩ : ∃ c, c = str [UInt8.ofNat (48 + v)] := ⟨_, rfl⟩
      rw [← hc] at q1 q2
      rw [HD.out] at q2
      clear hc hd hlen hp
      go_wp2_with fail
      go_ret
      exact ⟨rfl, rfl⟩
    · have hge : 10 ≤ v := by omega
      obtain ⟨d, hde⟩ : ∃ d, d = v % 10 := ⟨_, rfl⟩
      obtain ⟨q, hqe⟩ : ∃ q, q = v / 10 := ⟨_, rfl⟩
      have hd10 : d < 10 := by omega
      have hql : q < v := by omega
      have e1 : (v : Int) % 10 = (d : Int) := by omega
      have e2 : (v : Int) / 10 = (q : Int) := by omega
      have e3 : Int.tmod (v : Int) 10 = (d : Int) := by rw [Int.tmod_eq_emod_of_nonneg (by omega)]; exact e1
      have e4 : Int.tdiv (v : Int) 10 = (q : Int) := by rw [Int.tdiv_eq_ediv_of_nonneg (by omega)]; exact e2
      have q1 := dig_slice hd10
      have q2 := str_add [UInt8.ofNat (48 + d)] r (by simp; omega)
      have HD : Hid (Lib.decDigits q ++ ([UInt8.ofNat (48 + d)] ++ r) = Lib.decDigits u) := by
        rw [Hid, ← hd, dec_big hge, ← hde, ← hqe, List.append_assoc]
      obtain ⟨c, hc⟩ : ∃ c, c = str [UInt8.ofNat (48 + d)] := ⟨_, rfl⟩
      obtain ⟨r2, hr2⟩ : ∃ r2, r2 = [UInt8.ofNat (48 + d)] ++ r := ⟨_, rfl⟩
      rw [← hc, ← hr2] at q2
      rw [← hc] at q1
      rw [← hr2] at HD
      clear hc hr2 hd hlen hp hde hqe h10
      go_wp2_with fail
      go_roundg q
      case measure => omega
      case rel => exact ⟨q, r2, rfl, by omega, rfl, rfl, HD.out, rfl⟩

def NumNeg (u : Nat) (w : World) (k : Nat) (a s : Value) (wr : World) : Prop :=
  ∃ (v : Nat) (z : Int) (r : List UInt8), v = k ∧ 1 ≤ v ∧ v ≤ 9223372036854775808 ∧ z = -(v : Int) ∧ a = .int .i64 z ∧ s = .string (str r) ∧ Lib.decDigits v ++ r = Lib.decDigits u ∧ w = wr

set_option maxRecDepth 100000 in
theorem num_neg {u : Nat} (h1 : 1 ≤ u) (h : u ≤ 9223372036854775808) (w : World) : Calls Tryz.prog 71 #[.int .i64 (-(u : Int))] w fun e w' => e = .returned (.string (str (45 :: Lib.decDigits u))) ∧ w = w' := by
  have HL := Lib.hid (dec_len21 (u := u) (by omega))
  obtain ⟨z0, hz0⟩ : ∃ z : Int, z = -(u : Int) := ⟨_, rfl⟩
  rw [← hz0]
  have hlt0 : z0 < 0 := by omega
  have HZ0 := Lib.hid hz0
  clear hz0
  go_enter Tryz.func71, Tryz.ntmps71
  go_wp2_with fail
  go_loopg [0, 3] u (fun k a s wr => NumNeg u w k a s wr)
  case atStart => exact ⟨u, z0, [], rfl, h1, h, HZ0.out, rfl, rfl, by simp, rfl⟩
  case round =>
    obtain ⟨v, z, r, hk, hv1, hv, hz, ha, hs, hd, hw⟩ := hrel
    subst hk ha hs hw
    have hlen : (Lib.decDigits v).length + r.length ≤ 21 := by
      have := HL.out
      rw [← hd, List.length_append] at this
      exact this
    have hp := dec_pos v
    have HZ := Lib.hid hz
    by_cases h10 : v < 10
    · have q1 := dig_slice h10
      have q2 := str_add [45] [UInt8.ofNat (48 + v)] (by simp)
      have q3 := str_add ([45] ++ [UInt8.ofNat (48 + v)]) r (by simp; omega)
      have HD : Hid ([45] ++ [UInt8.ofNat (48 + v)] ++ r = 45 :: Lib.decDigits u) := by rw [← hd, Lib.decDigits_one h10]; exact rfl
      have hgt : ¬ z ≤ -10 := by omega
      have n1 : -z = (v : Int) := by omega
      have q0 : str [45] = ⟨#[45]⟩ := by decide
      obtain ⟨c, hc⟩ : ∃ c, c = str [UInt8.ofNat (48 + v)] := ⟨_, rfl⟩
      obtain ⟨c2, hc2⟩ : ∃ c2, c2 = str ([45] ++ [UInt8.ofNat (48 + v)]) := ⟨_, rfl⟩
      rw [← hc] at q1 q2
      rw [← hc2] at q2 q3
      rw [q0] at q2
      rw [HD.out] at q3
      have hzb : -9 ≤ z ∧ z ≤ -1 := by omega
      clear hc hc2 hd hlen hp hz q0 h10
      go_wp2_with fail
      go_ret
      exact ⟨rfl, rfl⟩
    · have hge : 10 ≤ v := by omega
      obtain ⟨d, hde⟩ : ∃ d, d = v % 10 := ⟨_, rfl⟩
      obtain ⟨q, hqe⟩ : ∃ q, q = v / 10 := ⟨_, rfl⟩
      obtain ⟨y, hy⟩ : ∃ y : Int, y = -(d : Int) := ⟨_, rfl⟩
      obtain ⟨zq, hzq⟩ : ∃ zq : Int, zq = -(q : Int) := ⟨_, rfl⟩
      have hd10 : d < 10 := by omega
      have hql : q < v := by omega
      have e3 : Int.tmod z 10 = y := by
        rw [hz, Int.neg_tmod, Int.tmod_eq_emod_of_nonneg (by omega), hy]
        omega
      have e4 : Int.tdiv z 10 = zq := by
        rw [hz, Int.neg_tdiv, Int.tdiv_eq_ediv_of_nonneg (by omega), hzq]
        omega
      have n1 : -y = (d : Int) := by omega
      have hyb : -9 ≤ y ∧ y ≤ 0 := by omega
      have hle : z ≤ -10 := by omega
      have hzqb : -922337203685477580 ≤ zq ∧ zq ≤ 0 := by omega
      have q1 := dig_slice hd10
      have q2 := str_add [UInt8.ofNat (48 + d)] r (by simp; omega)
      have HD : Hid (Lib.decDigits q ++ ([UInt8.ofNat (48 + d)] ++ r) = Lib.decDigits u) := by
        rw [Hid, ← hd, dec_big hge, ← hde, ← hqe, List.append_assoc]
      have HQ : Hid (1 ≤ q ∧ zq = -(q : Int)) := ⟨by omega, hzq⟩
      obtain ⟨c, hc⟩ : ∃ c, c = str [UInt8.ofNat (48 + d)] := ⟨_, rfl⟩
      obtain ⟨r2, hr2⟩ : ∃ r2, r2 = [UInt8.ofNat (48 + d)] ++ r := ⟨_, rfl⟩
      rw [← hc, ← hr2] at q2
      rw [← hc] at q1
      rw [← hr2] at HD
      clear hc hr2 hd hlen hp hde hqe h10 hz hy hzq
      go_wp2_with fail
      go_roundg q
      case measure => omega
      case rel => exact ⟨q, zq, r2, rfl, HQ.out.1, by omega, HQ.out.2, rfl, rfl, HD.out, rfl⟩

theorem num_all {n : Int} (h0 : -9223372036854775808 ≤ n) (h1 : n ≤ 9223372036854775807) (w : World) : Calls Tryz.prog 43 #[.int .i64 n] w fun e w' => e = .returned (.string (str (Lib.itoa n))) ∧ w = w' := by
  have H : Hid (Calls Tryz.prog 71 #[.int .i64 n] w fun e w' => e = .returned (.string (str (Lib.itoa n))) ∧ w = w') := by
    by_cases hn : n < 0
    · have e : n = -(n.natAbs : Int) := by omega
      have := num_neg (u := n.natAbs) (by omega) (by omega) w
      rw [← e] at this
      unfold Lib.itoa
      rw [if_pos hn]
      exact this
    · have e : n = (n.toNat : Int) := by omega
      have := num_pos (u := n.toNat) (by omega) w
      rw [← e] at this
      unfold Lib.itoa
      rw [if_neg hn]
      exact this
  go_enter Tryz.func43, Tryz.ntmps43
  go_wp2_with (go_at_call 71; refine H.out.mono ?_; rintro e w' ⟨rfl, rfl⟩)
  go_ret
  exact ⟨rfl, rfl⟩
end Go.Proofs.YtpokdihnimlgkaaGreatDoor
namespace Go.Proofs.YtpokdihnimlgkaaGreatDoor
open Go.RowKit

/-- The text of the first m entries. -/
def acc (l : List Ent) (m : Nat) : List UInt8 := Lib.join ((l.take m).map entText) [44]
theorem acc_zero (l : List Ent) : acc l 0 = [] := rfl
theorem acc_one {l : List Ent} {e : Ent} (h : l[0]? = some e) : acc l 1 = entText e := by
  unfold acc
  rw [List.take_add_one, h]
  simp [Lib.join_one]
theorem acc_step {l : List Ent} {m : Nat} {e : Ent} (h : l[m + 1]? = some e) : acc l (m + 1 + 1) = acc l (m + 1) ++ [44] ++ entText e := by
  unfold acc
  cases l with
  | nil => simp at h
  | cons x r =>
    have hr : r[m]? = some e := by simpa using h
    rw [List.take_succ_cons, List.take_succ_cons, List.map_cons, List.map_cons, Lib.join_cons, Lib.join_cons]
    have := Lib.joinTail_take_succ [44] (r.map entText) m (entText e) (by simp [hr])
    rw [← List.map_take, ← List.map_take] at this
    rw [this]
    simp
theorem acc_len {l : List Ent} (hl : l.length ≤ 30) (hx : ∀ e ∈ l, e.1.length ≤ 100) (hw : Wide l) (m : Nat) : (acc l m).length ≤ 4000 := by
  unfold acc
  have hm : (l.take m).length ≤ 30 := by rw [List.length_take]; omega
  have hx' : ∀ e ∈ l.take m, e.1.length ≤ 100 := fun e h => hx e (List.mem_of_mem_take h)
  have hw' : Wide (l.take m) := fun e h => hw e (List.mem_of_mem_take h)
  cases hk : l.take m with
  | nil => simp [Lib.join_nil]
  | cons x r =>
    rw [hk] at hm hx' hw'
    rw [List.map_cons, Lib.join_length]
    have h1 := lens_le 122 (entText x :: r.map entText) (fun y hy => by
      rw [← List.map_cons] at hy
      obtain ⟨e, he, rfl⟩ := List.mem_map.1 hy
      have h1 := hx' e he
      have h2 := hw' e he
      have h3 := Lib.itoa_length_le e.2 h2.1 h2.2
      simp [entText]
      omega)
    simp at h1 hm ⊢
    omega
theorem acc_labText {l : List Ent} (h : l ≠ []) : acc l l.length = labText l := by
  unfold acc labText
  rw [List.take_of_length_le (Nat.le_refl _), if_neg h]
theorem acc_ne {l : List Ent} (h : l ≠ []) : ¬ acc l l.length = [] := by
  unfold acc
  rw [List.take_of_length_le (Nat.le_refl _)]
  cases l with
  | nil => exact absurd rfl h
  | cons x r =>
    rw [List.map_cons, Lib.join_cons]
    simp [entText]

def RtRel (w : World) (l : List Ent) (k : Nat) (s i : Value) (wr : World) : Prop :=
  ∃ m, m + k = l.length ∧ i = .int .i64 (m : Int) ∧ s = .string (str (acc l m)) ∧ Below w.heap.size w wr

set_option maxRecDepth 100000 in
set_option maxHeartbeats 1000000 in
theorem refText_any {w : World} {A : Option Addr} {c : Nat} {l : List Ent} (hl : Ents w w.heap.size A l) (hn : l.length ≤ 30) (hx : ∀ e ∈ l, e.1.length ≤ 100) (hw : Wide l) :
    Calls Tryz.prog 19 #[.slice A l.length c] w (RetB w (.string (str (labText l)))) := by
  have HL := Lib.hid hl
  have HX := Lib.hid hx
  have HW := Lib.hid hw
  have HAL := Lib.hid (acc_len hn hx hw)
  clear hl hx hw
  go_enter Tryz.func19, Tryz.ntmps19
  go_wp2_with fail
  go_loopg [3, 8] l.length (fun k s i wr => RtRel w l k s i wr)
  case atStart => exact ⟨0, by simp, rfl, rfl, Below.refl _ _⟩
  case round =>
    obtain ⟨m, hmk, hi, hs, hb⟩ := hrel
    subst hi hs
    have HB := Lib.hid hb
    cases gk with
    | zero =>
      have hm : m = l.length := by omega
      subst hm
      by_cases hl0 : l = []
      · subst hl0
        have HD : Hid (labText [] = [45]) := by unfold Hid labText; rw [if_pos rfl]
        have e0 : str (acc [] ([] : List Ent).length) = ⟨#[]⟩ := rfl
        rw [e0]
        clear hb
        go_wp2_with fail
        go_ret
        exact ⟨by rw [HD.out]; rfl, HB.out⟩
      · have hq : ((str (acc l l.length)).toList == (⟨#[]⟩ : ByteArray).toList) = false := str_differs (b := []) (acc_ne hl0)
        have hq2 : (str (acc l l.length)).toList.isEmpty = false := by
          rw [ByteArray.toList_eq, str_list]
          cases hc : acc l l.length with
          | nil => exact absurd hc (acc_ne hl0)
          | cons x r => rfl
        rw [acc_labText hl0] at hq hq2 ⊢
        clear hb hl0
        go_wp2_with fail
        go_ret
        exact ⟨rfl, HB.out⟩
    | succ j =>
      have hm : m < l.length := by omega
      obtain ⟨⟨t, n⟩, hx⟩ : ∃ x, l[m]? = some x := ⟨_, List.getElem?_eq_getElem hm⟩
      obtain ⟨b, o, rfl, hlt, hcells⟩ := (HL.out.below hb) (by omega)
      obtain ⟨c1, c2⟩ := hcells m t n hx
      have hmem := List.mem_of_getElem? hx
      have htl : t.length ≤ 100 := HX.out _ hmem
      have hnw := HW.out _ hmem
      have hsz := hb.size
      have HM := Lib.hid hmk
      have hal := HAL.out m
      obtain ⟨N, hN⟩ : ∃ N, N = Lib.itoa n := ⟨_, rfl⟩
      have hNl : N.length ≤ 21 := by rw [hN]; exact Lib.itoa_length_le n hnw.1 hnw.2
      obtain ⟨W0, hW0⟩ : ∃ W0, W0 = wr.alloc (.cells #[.string (str t), .int .i64 n] 33) := ⟨_, rfl⟩
      have hB0 : Below wr.heap.size wr W0 := by rw [hW0]; exact (Below.refl _ _).alloc (Nat.le_refl _) _
      have k0 : W0.cell? ⟨wr.heap.size, 0, none⟩ = some (.string (str t)) := by rw [hW0]; simp
      have k1 : W0.cell? ⟨wr.heap.size, 1, none⟩ = some (.int .i64 n) := by rw [hW0]; simp
      have HI : Hid (∀ W, Calls Tryz.prog 43 #[.int .i64 n] W fun e w' => e = .returned (.string (str N)) ∧ W = w') := fun W => by
        rw [hN]
        exact num_all hnw.1 hnw.2 W
      obtain ⟨T, hT⟩ : ∃ T, T = t ++ [61] := ⟨_, rfl⟩
      obtain ⟨X, hX⟩ : ∃ X, X = T ++ N := ⟨_, rfl⟩
      have HTX : Hid (entText (t, n) = X) := by unfold Hid entText; rw [hX, hT, hN]
      have a1 : ∀ W : World, (Op.stringOp .add (str t) ⟨#[61]⟩).run Tryz.prog W = .ok (.string (str T)) W := fun W => by
        have := str_add t [61] (by simp; omega) W
        rw [hT]
        exact this
      have hTl : T.length ≤ 101 := by rw [hT]; simp; omega
      have a2 : ∀ W : World, (Op.stringOp .add (str T) (str N)).run Tryz.prog W = .ok (.string (str X)) W := fun W => by
        rw [hX]
        exact str_add T N (by omega) W
      have hXl : X.length ≤ 122 := by rw [hX, List.length_append]; omega
      have HB0 := Lib.hid hB0
      have HW0 := Lib.hid hW0
      have HX2 := Lib.hid hx
      obtain ⟨S, hS⟩ : ∃ S, S = acc l m := ⟨_, rfl⟩
      rw [← hS] at hal ⊢
      have HS := Lib.hid hS
      clear hcells hx hmk hb hB0 hmem hnw hN hT hX hW0 hS
      cases m with
      | zero =>
        have hS0 : S = [] := HS.out
        subst hS0
        obtain ⟨S2, hS2⟩ : ∃ S2, S2 = [] ++ X := ⟨_, rfl⟩
        have a3 : ∀ W : World, (Op.stringOp .add (str []) (str X)).run Tryz.prog W = .ok (.string (str S2)) W := fun W => by
          rw [hS2]
          exact str_add [] X (by simp; omega) W
        have HR : Hid (acc l 1 = S2) := by
          unfold Hid
          rw [acc_one HX2.out, HTX.out, hS2]
          rfl
        have c1' : wr.cell? ⟨b, o, none⟩ = some (.string (str t)) := by simpa using c1
        have c2' : wr.cell? ⟨b, o + 1, none⟩ = some (.int .i64 n) := by simpa using c2
        clear hS2 c1 c2
        go_wp2_with fail
        rw [← HW0.out]
        go_region_held3 (fun W => W.cell? ⟨wr.heap.size, 0, none⟩ = some (.string (str t)) ∧ W.cell? ⟨wr.heap.size, 1, none⟩ = some (.int .i64 n))
          (first
            | go_keep)
          (first
            | (go_at_call 43; refine (HI.out _).mono ?_; rintro e W1 ⟨rfl, rfl⟩))
        all_goals (
          have B1 : Hid (Below w.heap.size w W0.drew) := (HB.out.trans (HB0.out.mono hsz)).drew
          clear k0 k1 a1 a2 a3 HI
          go_wp2_with fail
          go_roundg j
          case measure => omega
          case rel => exact ⟨1, by have := HM.out; omega, by go_num, by rw [HR.out], B1.out⟩)
      | succ m =>
        obtain ⟨S1, hS1⟩ : ∃ S1, S1 = S ++ [44] := ⟨_, rfl⟩
        obtain ⟨S2, hS2⟩ : ∃ S2, S2 = S1 ++ X := ⟨_, rfl⟩
        have a0 : ∀ W : World, (Op.stringOp .add (str S) ⟨#[44]⟩).run Tryz.prog W = .ok (.string (str S1)) W := fun W => by
          rw [hS1]
          exact str_add S [44] (by simp; omega) W
        have a3 : ∀ W : World, (Op.stringOp .add (str S1) (str X)).run Tryz.prog W = .ok (.string (str S2)) W := fun W => by
          rw [hS2]
          exact str_add S1 X (by rw [hS1]; simp; omega) W
        have HR : Hid (acc l (m + 1 + 1) = S2) := by
          unfold Hid
          rw [acc_step HX2.out, HTX.out, hS2, hS1, HS.out]
        have hmp : ((m : Int) + 1) > 0 := by omega
        clear hS1 hS2
        go_wp2_with fail
        rw [← HW0.out]
        go_region_held3 (fun W => W.cell? ⟨wr.heap.size, 0, none⟩ = some (.string (str t)) ∧ W.cell? ⟨wr.heap.size, 1, none⟩ = some (.int .i64 n))
          (first
            | go_keep)
          (first
            | (go_at_call 43; refine (HI.out _).mono ?_; rintro e W1 ⟨rfl, rfl⟩))
        all_goals (
          have B1 : Hid (Below w.heap.size w W0.drew) := (HB.out.trans (HB0.out.mono hsz)).drew
          clear k0 k1 a0 a1 a2 a3 HI
          go_wp2_with fail
          go_roundg j
          case measure => omega
          case rel => exact ⟨m + 1 + 1, by have := HM.out; omega, by go_num, by rw [HR.out], B1.out⟩)

def RpRel (w : World) (l : List Ent) (k : Nat) (s i : Value) (wr : World) : Prop :=
  ∃ m, m + k = l.length ∧ i = .int .i64 (m : Int) ∧ s = .string (Tp.str (Tp.enc l.length ++ (l.take m).flatMap entBytes)) ∧ Below w.heap.size w wr

set_option maxRecDepth 100000 in
set_option maxHeartbeats 1000000 in
theorem refPut_any {w : World} {A : Option Addr} {c : Nat} {l : List Ent} (hl : Ents w w.heap.size A l) (hn : l.length ≤ 30) (hx : ∀ e ∈ l, e.1.length ≤ 3000) :
    Calls Tryz.prog 21 #[.slice A l.length c] w (RetB w (.string (Tp.str (labBytes l)))) := by
  have HL := Lib.hid hl
  have HX := Lib.hid hx
  have HFL := Lib.hid (flat_len l hx)
  have H45 := Lib.hid (Tp.ref_number l.length (by omega) w)
  have HGL := Lib.hid (Tp.enc_nine (n := l.length) (by omega))
  clear hl hx
  go_enter Tryz.func21, Tryz.ntmps21
  go_wp2_with fail
  refine H45.out.mono ?_
  rintro e w1 ⟨rfl, hb1⟩
  have B1 := Lib.hid hb1
  clear hb1 H45
  go_wp2_with fail
  go_loopg [3, 11] l.length (fun k s i wr => RpRel w l k s i wr)
  case atStart => exact ⟨0, by simp, rfl, by simp, B1.out⟩
  case round =>
    obtain ⟨m, hmk, hi, hs, hb⟩ := hrel
    subst hi hs
    have HB := Lib.hid hb
    have hsz := hb.size
    cases gk with
    | zero =>
      have hge : l.length ≤ m := by omega
      rw [List.take_of_length_le hge]
      have HD : Hid (labBytes l = Tp.enc l.length ++ l.flatMap entBytes) := rfl
      rw [← HD.out]
      clear hb
      go_wp2_with fail
      go_ret
      exact ⟨rfl, HB.out⟩
    | succ j =>
      have hm : m < l.length := by omega
      obtain ⟨⟨t, n⟩, hx⟩ : ∃ x, l[m]? = some x := ⟨_, List.getElem?_eq_getElem hm⟩
      obtain ⟨b, o, rfl, hlt, hcells⟩ := (HL.out.below hb) (by omega)
      obtain ⟨c1, c2⟩ := hcells m t n hx
      have HM := Lib.hid hmk
      have htl : t.length ≤ 3000 := HX.out _ (List.mem_of_getElem? hx)
      obtain ⟨pb, hpb⟩ : ∃ pb, pb = Tp.enc l.length ++ (l.take m).flatMap entBytes := ⟨_, rfl⟩
      have hpl : pb.length ≤ 600000 := by
        have h1 := HGL.out
        have h2 := flat_len (l.take m) fun e he => HX.out e (List.mem_of_mem_take he)
        rw [List.length_take] at h2
        rw [hpb, List.length_append]
        have : 3018 * min m l.length ≤ 3018 * 30 := Nat.mul_le_mul_left _ (by omega)
        omega
      have HPB : Hid (pb ++ Tp.txt (str t) ++ numBytes n = Tp.enc l.length ++ (l.take (m + 1)).flatMap entBytes) := by
        unfold Hid
        rw [List.take_add_one, hx, List.flatMap_append, hpb]
        simp [entBytes]
      rw [← hpb]
      have hTl : (Tp.txt (str t)).length ≤ 3009 := by
        have h1 := Tp.enc_nine (n := t.length) (by omega)
        unfold Tp.txt
        rw [List.length_append, Tp.bys_length, str_size]
        omega
      obtain ⟨W0, hW0⟩ : ∃ W0, W0 = wr.alloc (.cells #[.string (str t), .int .i64 n] 33) := ⟨_, rfl⟩
      have hB0 : Below wr.heap.size wr W0 := by rw [hW0]; exact (Below.refl _ _).alloc (Nat.le_refl _) _
      have k1 : W0.cell? ⟨wr.heap.size, 1, none⟩ = some (.int .i64 n) := by rw [hW0]; simp
      have hg0 : wr.heap.size < W0.heap.size := by rw [hW0]; simp
      have H46 := Lib.hid (Tp.ref_text W0 (str t) (by rw [str_size]; exact htl))
      obtain ⟨sT, hsT⟩ : ∃ sT, sT = Tp.txt (str t) := ⟨_, rfl⟩
      rw [← hsT] at H46 HPB hTl
      obtain ⟨q1, hq1⟩ : ∃ q1, q1 = pb ++ sT := ⟨_, rfl⟩
      rw [← hq1] at HPB
      have hq1l : q1.length ≤ 700000 := by rw [hq1, List.length_append]; omega
      have a1 : ∀ W : World, (Op.stringOp .add (Tp.str pb) (Tp.str sT)).run Tryz.prog W = .ok (.string (Tp.str q1)) W := fun W => by
        rw [hq1, ← Tp.str_append]
        exact Tp.add_str W (by rw [Tp.str_size]; omega) (by rw [Tp.str_size]; omega)
      have HW0 := Lib.hid hW0
      have HB0 := Lib.hid hB0
      have K1 := Lib.hid k1
      clear hcells hx hmk hb hB0 hW0 hpb hsT hq1 k1
      go_wp2_with fail
      rw [← HW0.out]
      refine H46.out.mono ?_
      rintro e w2 ⟨rfl, hb2⟩
      have c4 : w2.cell? ⟨wr.heap.size, 1, none⟩ = some (.int .i64 n) := (hb2.cell (p := ⟨wr.heap.size, 1, none⟩) hg0).trans K1.out
      have B2 : Hid (Below w.heap.size w w2) := HB.out.trans ((HB0.out.trans (hb2.mono HB0.out.size)).mono hsz)
      clear hb2 H46 c1 c2
      by_cases hlo : 0 ≤ n
      · by_cases hhi : n ≤ 4611686018427387903
        · obtain ⟨u, hu⟩ : ∃ u : Nat, (u : Int) = n := ⟨n.toNat, by omega⟩
          subst hu
          have HNB : Hid (numBytes (u : Int) = Tp.enc u) := by unfold Hid numBytes; rw [if_pos ⟨hlo, hhi⟩, Int.toNat_natCast]
          have H45b := Lib.hid (Tp.ref_number u (by omega) w2)
          obtain ⟨eu, heu⟩ : ∃ eu, eu = Tp.enc u := ⟨_, rfl⟩
          rw [← heu] at H45b HNB
          have heul : eu.length ≤ 9 := by rw [heu]; exact Tp.enc_nine (by omega)
          obtain ⟨q2, hq2⟩ : ∃ q2, q2 = q1 ++ eu := ⟨_, rfl⟩
          have a2 : ∀ W : World, (Op.stringOp .add (Tp.str q1) (Tp.str eu)).run Tryz.prog W = .ok (.string (Tp.str q2)) W := fun W => by
            rw [hq2, ← Tp.str_append]
            exact Tp.add_str W (by rw [Tp.str_size]; omega) (by rw [Tp.str_size]; omega)
          have HR : Hid (Tp.enc l.length ++ (l.take (m + 1)).flatMap entBytes = q2) := by
            unfold Hid
            rw [← HPB.out, HNB.out, hq2]
          clear hq2 heu
          go_wp2_with fail
          refine H45b.out.mono ?_
          rintro e w3 ⟨rfl, hb3⟩
          have B3 : Hid (Below w.heap.size w w3) := B2.out.trans (hb3.mono B2.out.size)
          clear hb3 H45b c4
          go_wp2_with fail
          go_roundg j
          case measure => omega
          case rel => exact ⟨m + 1, by have := HM.out; omega, by go_num, by rw [HR.out], B3.out⟩
        · have HR : Hid (Tp.enc l.length ++ (l.take (m + 1)).flatMap entBytes = q1) := by
            unfold Hid
            rw [← HPB.out]
            unfold numBytes
            rw [if_neg (fun h => hhi h.2), List.append_nil]
          go_wp2_with fail
          go_roundg j
          case measure => omega
          case rel => exact ⟨m + 1, by have := HM.out; omega, by go_num, by rw [HR.out], B2.out⟩
      · have HR : Hid (Tp.enc l.length ++ (l.take (m + 1)).flatMap entBytes = q1) := by
          unfold Hid
          rw [← HPB.out]
          unfold numBytes
          rw [if_neg (fun h => hlo h.1), List.append_nil]
        go_wp2_with fail
        go_roundg j
        case measure => omega
        case rel => exact ⟨m + 1, by have := HM.out; omega, by go_num, by rw [HR.out], B2.out⟩
end Go.Proofs.YtpokdihnimlgkaaGreatDoor
