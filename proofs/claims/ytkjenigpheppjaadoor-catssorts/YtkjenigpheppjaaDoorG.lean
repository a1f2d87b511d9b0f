/- cats.Name. -/
import Derived.Test.YtkjenigpheppjaaDoorF
namespace Go.Proofs.YtkjenigpheppjaaDoor
open Go.RowKit

theorem join_snoc : ∀ (ps : List (List UInt8)) (x : List UInt8), ps ≠ [] → joinDot (ps ++ [x]) = joinDot ps ++ 46 :: x
  | [], _, h => absurd rfl h
  | [y], x, _ => rfl
  | y :: z :: r, x, _ => by
    have := join_snoc (z :: r) x (by simp)
    simp only [List.cons_append, joinDot] at this ⊢
    rw [this, List.append_assoc, List.cons_append]
theorem path_one (u : Nat) : pathText [u] = Lib.decDigits u := rfl
theorem path_snoc {p : List Nat} (h : p ≠ []) (u : Nat) : pathText (p ++ [u]) = pathText p ++ 46 :: Lib.decDigits u := by
  unfold pathText
  rw [List.map_append]
  exact join_snoc _ _ (by simpa using h)
theorem path_len : ∀ p : List Nat, (∀ u ∈ p, u ≤ 1048576) → (pathText p).length ≤ 8 * p.length
  | [], _ => by simp [pathText, joinDot]
  | [x], h => by
    have := dec_len7 (h x (by simp))
    rw [path_one]
    simp
    omega
  | x :: y :: r, h => by
    have h1 := dec_len7 (h x (by simp))
    have h2 := path_len (y :: r) (fun u hu => h u (List.mem_cons_of_mem _ hu))
    have e : pathText (x :: y :: r) = Lib.decDigits x ++ 46 :: pathText (y :: r) := rfl
    rw [e]
    simp at h2 ⊢
    omega

/-- A builder in block b that holds these bytes; it and they lie from B on. -/
def Bld (w : World) (B b : Nat) (l : List UInt8) : Prop := Lib.IsBuilder 54 5 B b (Lib.byteCells l) w
theorem Bld.below {w w' : World} {B b : Nat} {l : List UInt8} (h : Bld w B b l) (hb : Below w.heap.size w w') : Bld w' B b l := by
  have key : ∀ p, Lib.BuilderAt 54 5 B b p (Lib.byteCells l) w → Lib.BuilderAt 54 5 B b p (Lib.byteCells l) w' := fun p ⟨h0, v, h1, h2, h3⟩ =>
    ⟨h0, v, (hb.block b (Array.getElem?_eq_some_iff.1 h1).1).trans h1, World.ownsRow.kept (row := Option.none) h2 (grown_of_below hb) (by cases v.ownBlock <;> simp), h3⟩
  rcases h with h | h
  · exact .inl (key _ h)
  · exact .inr (key _ h)
theorem write_any {w : World} {B b : Nat} {l t : List UInt8} (h : Bld w B b l) (hl : l.length + t.length ≤ 100000) (hB : B ≤ w.heap.size) :
    Calls Tryd.prog 23 #[.pointer (some ⟨b, 0, none⟩), .string (str t)] w fun e w' => e = .returned (.tuple #[.int .i64 ((str t).size : Int), .nilIface]) ∧ Bld w' B b (l ++ t) ∧ Below B w w' := by
  refine (Tryd.Builder_WriteString B b (Lib.byteCells l) (str t) w h (by rw [Lib.byteCells_length, str_size]; omega) hB).mono ?_
  rintro e w' ⟨he, h1, h2⟩
  refine ⟨he, .inr ?_, h2⟩
  have e1 : Lib.byteCells (l ++ t) = Lib.byteCells l ++ Lib.strCells (str t) := by
    rw [Lib.strCells_eq, str_list]
    simp [Lib.byteCells]
  rw [e1]
  exact h1

def nats (zs : List Int) : List Nat := zs.map Int.toNat
theorem nats_snoc {zs : List Int} {m : Nat} {z : Int} (h : zs[m]? = some z) : nats (zs.take (m + 1)) = nats (zs.take m) ++ [z.toNat] := by
  unfold nats
  rw [List.take_add_one, h, List.map_append]
  rfl

/-- The name, and true; else nothing and false. -/
def nameOf (zs : List Int) (n : Int) : Value := if PathOk zs ∧ 0 ≤ n ∧ n ≤ 65535 then .tuple #[.string (str (catText (nats zs) n.toNat)), .bool true] else .tuple #[.string ⟨#[]⟩, .bool false]

def NameRel (w : World) (zs : List Int) (k : Nat) (i : Value) (wr : World) : Prop :=
  ∃ m, m + k = zs.length ∧ i = .int .i64 (m : Int) ∧ Bld wr w.heap.size w.heap.size (pathText (nats (zs.take m))) ∧ Below w.heap.size w wr

theorem ok_nats {zs : List Int} (h : PathOk zs) (m : Nat) : (pathText (nats (zs.take m))).length ≤ 48 := by
  refine Nat.le_trans (path_len _ fun u hu => ?_) ?_
  · simp only [nats, List.mem_map] at hu
    obtain ⟨z, hz, rfl⟩ := hu
    have := h.2 z (List.mem_of_mem_take hz)
    omega
  · have := h.1
    simp [nats]
    omega

set_option maxRecDepth 100000 in
theorem name_no {w : World} {A : Option Addr} {c : Nat} {zs : List Int} {n : Int} (h : Ints w w.heap.size A zs) (hn : zs.length ≤ 1000000) (hno : ¬ (PathOk zs ∧ 0 ≤ n ∧ n ≤ 65535)) :
    Calls Tryd.prog 11 #[.slice A zs.length c, .int .i64 n] w (RetB w (.tuple #[.string ⟨#[]⟩, .bool false])) := by
  have H21 := Lib.hid (isPath_any (c := c) h hn)
  have H22 := Lib.hid (inRange_any n 65535 w)
  clear h
  by_cases hp : PathOk zs
  · have hr : ¬ (0 ≤ n ∧ n ≤ 65535) := fun h => hno ⟨hp, h⟩
    rw [decide_eq_true hp] at H21
    rw [decide_eq_false hr] at H22
    clear hno hp hr
    go_enter Tryd.func11, Tryd.ntmps11
    go_wp2_with (first
      | (go_at_call 21; refine H21.out.mono ?_; rintro e w' ⟨rfl, rfl⟩)
      | (go_at_call 22; refine H22.out.mono ?_; rintro e w' ⟨rfl, rfl⟩))
    go_ret2
    exact ⟨rfl, Below.refl _ _⟩
  · rw [decide_eq_false hp] at H21
    clear hno hp H22
    go_enter Tryd.func11, Tryd.ntmps11
    go_wp2_with (first
      | (go_at_call 21; refine H21.out.mono ?_; rintro e w' ⟨rfl, rfl⟩))
    go_ret2
    exact ⟨rfl, Below.refl _ _⟩

set_option maxRecDepth 100000 in
theorem name_yes {w : World} {A : Option Addr} {c : Nat} {zs : List Int} {n : Int} (he : Env w) (h : Ints w w.heap.size A zs) (hp : PathOk zs) (hr : 0 ≤ n ∧ n ≤ 65535) :
    Calls Tryd.prog 11 #[.slice A zs.length c, .int .i64 n] w (RetB w (.tuple #[.string (str (catText (nats zs) n.toNat)), .bool true])) := by
  have HE := Lib.hid he
  have HI := Lib.hid h
  have H21 := Lib.hid (isPath_any (c := c) h (by have := hp.1; omega))
  have H22 := Lib.hid (inRange_any n 65535 w)
  rw [decide_eq_true hp] at H21
  rw [decide_eq_true hr] at H22
  have hlen := hp.1
  have HP := Lib.hid hp
  have HN : Hid (Lib.itoa n = Lib.decDigits n.toNat) := by
    have := itoa_nat n.toNat
    rwa [Int.toNat_of_nonneg hr.1] at this
  have hn0 := hr.1
  have hn1 := hr.2
  have HL := Lib.hid (dec_len7 (u := n.toNat) (by omega))
  clear he h hp hr
  have hs0 : Hid (Bld (w.alloc (.cells #[.pointer none, .slice none 0 0] 54)) w.heap.size w.heap.size []) := Lib.fresh_isBuilder 54 5 w
  go_enter Tryd.func11, Tryd.ntmps11
  go_wp2_with (first
    | (go_at_call 21; refine H21.out.mono ?_; rintro e w' ⟨rfl, rfl⟩)
    | (go_at_call 22; refine H22.out.mono ?_; rintro e w' ⟨rfl, rfl⟩))
  go_loopg [19] zs.length (fun k i wr => NameRel w zs k i wr)
  case atStart => exact ⟨0, by simp, rfl, hs0.out, (Below.refl _ _).alloc (Nat.le_refl _) _⟩
  case round =>
    obtain ⟨m, hmk, hi, hbd, hb⟩ := hrel
    subst hi
    have BB := Lib.hid hb
    have HD := Lib.hid hbd
    have EW := Lib.hid (HE.out.on hb)
    have hl48 := ok_nats HP.out m
    clear hb hbd
    cases gk with
    | zero =>
      have hge : zs.length ≤ m := by omega
      have HT : Hid (zs.take m = zs) := List.take_of_length_le hge
      obtain ⟨l, hle⟩ : ∃ l, l = pathText (nats (zs.take m)) := ⟨_, rfl⟩
      have HX : Hid (l = pathText (nats zs)) := by rw [Hid, hle, HT.out]
      rw [← hle] at HD hl48
      clear hle hmk
      have H23 : Hid (Calls Tryd.prog 23 #[.pointer (some ⟨w.heap.size, 0, none⟩), .string ⟨#[47]⟩] wr fun e w' => e = .returned (.tuple #[.int .i64 1, .nilIface]) ∧ Bld w' w.heap.size w.heap.size (l ++ [47]) ∧ Below w.heap.size wr w') := write_any (t := [47]) HD.out (by simp; omega) BB.out.size
      go_wp2_with fail
      refine H23.out.mono ?_
      rintro e w1 ⟨rfl, hd1, hb1⟩
      have B1 := Lib.hid (BB.out.trans hb1)
      have D1 := Lib.hid hd1
      have E1 := Lib.hid (HE.out.on B1.out)
      clear hb1 hd1 H23
      have H24 := Lib.hid (itoa_any (n := n) E1.out (by omega) (by omega))
      rw [HN.out] at H24
      go_wp2_with fail
      refine H24.out.mono ?_
      rintro e w2 ⟨rfl, hb2⟩
      have B2 := Lib.hid (B1.out.trans (hb2.mono B1.out.size))
      have D2 := Lib.hid (D1.out.below hb2)
      clear hb2 H24
      have H23 := Lib.hid (write_any (t := Lib.decDigits n.toNat) D2.out (by have := HL.out; simp; omega) B2.out.size)
      go_wp2_with fail
      refine H23.out.mono ?_
      rintro e w3 ⟨rfl, hd3, hb3⟩
      have B3 := Lib.hid (B2.out.trans hb3)
      have HC : Hid (l ++ [47] ++ Lib.decDigits n.toNat = catText (nats zs) n.toNat) := by rw [Hid, HX.out]; simp [catText]
      rw [HC.out] at hd3
      have H25 := Lib.hid (Tryd.Builder_String w.heap.size w.heap.size (catText (nats zs) n.toNat) w3 hd3 (by simp [catText]))
      clear hb3 hd3 H23
      go_wp2_with fail
      refine H25.out.mono ?_
      rintro e w4 ⟨rfl, hb4⟩
      have B4 := Lib.hid (B3.out.trans hb4)
      clear hb4 H25
      go_wp2_with fail
      go_ret2
      exact ⟨rfl, B4.out⟩
    | succ j =>
      have hm : m < zs.length := by omega
      obtain ⟨z, hz⟩ : ∃ z, zs[m]? = some z := ⟨_, List.getElem?_eq_getElem hm⟩
      obtain ⟨b, o, rfl, hlt, hcells⟩ := HI.out.2 (by omega)
      have cx := (BB.out.cell (p := ⟨b, o + m, none⟩) hlt).trans (hcells m z hz)
      have hzr := HP.out.2 z (List.mem_of_getElem? hz)
      have HN2 : Hid (Lib.itoa z = Lib.decDigits z.toNat) := by
        have := itoa_nat z.toNat
        rwa [Int.toNat_of_nonneg hzr.1] at this
      have HL2 := Lib.hid (dec_len7 (u := z.toNat) (by omega))
      have HM := Lib.hid hmk
      have HS := Lib.hid (nats_snoc hz)
      by_cases h0 : m = 0
      · subst h0
        have HT : Hid (pathText (nats (zs.take (0 + 1))) = Lib.decDigits z.toNat) := by rw [Hid, HS.out]; rfl
        have HD0 : Hid (Bld wr w.heap.size w.heap.size []) := HD.out
        have H24 := Lib.hid (itoa_any (n := z) EW.out (by omega) (by omega))
        rw [HN2.out] at H24
        have cx0 : wr.cell? ⟨b, o, none⟩ = some (.int .i64 z) := by simpa using cx
        clear hz hmk hcells HS HD cx
        go_wp2_with fail
        refine H24.out.mono ?_
        rintro e w2 ⟨rfl, hb2⟩
        have B2 := Lib.hid (BB.out.trans (hb2.mono BB.out.size))
        have D2 := Lib.hid (HD0.out.below hb2)
        clear hb2 H24 cx0 HD0
        have H23 := Lib.hid (write_any (t := Lib.decDigits z.toNat) D2.out (by have := HL2.out; simp; omega) B2.out.size)
        rw [List.nil_append] at H23
        go_wp2_with fail
        refine H23.out.mono ?_
        rintro e w3 ⟨rfl, hd3, hb3⟩
        have B3 := Lib.hid (B2.out.trans hb3)
        have D3 := Lib.hid hd3
        clear hb3 hd3 H23
        go_wp2_with fail
        go_roundg j
        case measure => omega
        case rel => exact ⟨0 + 1, by have := HM.out; omega, by go_num, by rw [HT.out]; exact D3.out, B3.out⟩
      · have hpos : 0 < m := by omega
        obtain ⟨l, hle⟩ : ∃ l, l = pathText (nats (zs.take m)) := ⟨_, rfl⟩
        have HT : Hid (pathText (nats (zs.take (m + 1))) = l ++ [46] ++ Lib.decDigits z.toNat) := by
          rw [Hid, HS.out, path_snoc (by
            intro e
            have h2 : (nats (zs.take m)).length = m := by simp [nats]; omega
            rw [e] at h2
            simp at h2
            omega), hle]
          simp
        rw [← hle] at HD hl48
        clear hle hz hmk hcells HS h0
        have H23 : Hid (Calls Tryd.prog 23 #[.pointer (some ⟨w.heap.size, 0, none⟩), .string ⟨#[46]⟩] wr fun e w' => e = .returned (.tuple #[.int .i64 1, .nilIface]) ∧ Bld w' w.heap.size w.heap.size (l ++ [46]) ∧ Below w.heap.size wr w') := write_any (t := [46]) HD.out (by simp; omega) BB.out.size
        go_wp2_with fail
        refine H23.out.mono ?_
        rintro e w1 ⟨rfl, hd1, hb1⟩
        have B1 := Lib.hid (BB.out.trans hb1)
        have D1 := Lib.hid hd1
        have E1 := Lib.hid (HE.out.on B1.out)
        clear hb1 hd1 H23 HD cx
        have H24 := Lib.hid (itoa_any (n := z) E1.out (by omega) (by omega))
        rw [HN2.out] at H24
        go_wp2_with fail
        refine H24.out.mono ?_
        rintro e w2 ⟨rfl, hb2⟩
        have B2 := Lib.hid (B1.out.trans (hb2.mono B1.out.size))
        have D2 := Lib.hid (D1.out.below hb2)
        clear hb2 H24 D1
        have H23 := Lib.hid (write_any (t := Lib.decDigits z.toNat) D2.out (by have := HL2.out; simp; omega) B2.out.size)
        go_wp2_with fail
        refine H23.out.mono ?_
        rintro e w3 ⟨rfl, hd3, hb3⟩
        have B3 := Lib.hid (B2.out.trans hb3)
        have D3 := Lib.hid hd3
        clear hb3 hd3 H23
        go_wp2_with fail
        go_roundg j
        case measure => omega
        case rel => exact ⟨m + 1, by have := HM.out; omega, by go_num, by rw [HT.out]; exact D3.out, B3.out⟩

theorem name_any {w : World} {A : Option Addr} {c : Nat} {zs : List Int} {n : Int} (he : Env w) (h : Ints w w.heap.size A zs) (hn : zs.length ≤ 1000000) :
    Calls Tryd.prog 11 #[.slice A zs.length c, .int .i64 n] w (RetB w (nameOf zs n)) := by
  unfold nameOf
  by_cases hc : PathOk zs ∧ 0 ≤ n ∧ n ≤ 65535
  · rw [if_pos hc]
    exact name_yes he h hc.1 hc.2
  · rw [if_neg hc]
    exact name_no h hn hc
end Go.Proofs.YtkjenigpheppjaaDoor
