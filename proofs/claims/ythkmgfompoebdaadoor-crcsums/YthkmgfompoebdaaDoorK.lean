/- CrcSums answers true at every slice of slices of bytes, wherever the table lies as the text lays it; only new memory is written. -/
import Derived.Test.YthkmgfompoebdaaDoorH
namespace Go.Proofs.YthkmgfompoebdaaDoor
open Go.RowKit

/-- A slice of slices of bytes, as it lies below block B. -/
def Parts (w : World) (B : Nat) (A : Option Addr) (ps : List (List Nat)) : Prop :=
  0 < ps.length → ∃ b o, A = some ⟨b, o, none⟩ ∧ b < B ∧ ∀ (k : Nat) (l : List Nat), ps[k]? = some l → ∃ A1 c1, w.cell? ⟨b, o + k, none⟩ = some (.slice A1 l.length c1) ∧ Bts w B A1 l ∧ (A1 = none → c1 = 0) ∧ l.length ≤ maxLen

theorem Parts.below {w w' : World} {B : Nat} {A : Option Addr} {ps : List (List Nat)} (h : Parts w B A ps) (hb : Below B w w') : Parts w' B A ps := fun hp => by
  obtain ⟨b, o, hA, hlt, hc⟩ := h hp
  refine ⟨b, o, hA, hlt, fun k l hk => ?_⟩
  obtain ⟨A1, c1, h1, h2, h3⟩ := hc k l hk
  exact ⟨A1, c1, (hb.cell (p := ⟨b, o + k, none⟩) hlt).trans h1, h2.below hb, h3⟩
theorem Parts.more {w : World} {B B' : Nat} {A : Option Addr} {ps : List (List Nat)} (h : Parts w B A ps) (hB : B ≤ B') : Parts w B' A ps := fun hp => by
  obtain ⟨b, o, hA, hlt, hc⟩ := h hp
  refine ⟨b, o, hA, by omega, fun k l hk => ?_⟩
  obtain ⟨A1, c1, h1, h2, h3⟩ := hc k l hk
  exact ⟨A1, c1, h1, h2.more hB, h3⟩

def upto (ps : List (List Nat)) (m : Nat) : List Nat := (ps.take m).flatten
theorem upto_snoc {ps : List (List Nat)} {m : Nat} {l : List Nat} (h : ps[m]? = some l) : upto ps (m + 1) = upto ps m ++ l := by
  unfold upto
  rw [List.take_add_one, h, List.flatten_append]
  simp
theorem upto_sml {ps : List (List Nat)} (h : ∀ l ∈ ps, Sml l) (m : Nat) : Sml (upto ps m) := by
  intro c hc
  simp only [upto, List.mem_flatten] at hc
  obtain ⟨l, hl, hcl⟩ := hc
  exact h l (List.mem_of_mem_take hl) c hcl

theorem sum_crc {x l : List Nat} (hx : Sml x) : sumTo (crc x) l = crc (x ++ l) := by
  have h := reg_lt (l := x) (r := 4294967295) (by omega) hx
  unfold sumTo crc
  rw [reg_append, show 4294967295 - (4294967295 - reg 4294967295 x) = reg 4294967295 x by omega]

theorem crc_none (ps : List (List Nat)) : crc (upto ps 0) = 0 := by
  simp [crc, upto, reg]

theorem own_below {w w' : World} {base n : Nat} {v : Value} {xs : List Value} (h : w.ownsRow base 5 1 v n xs) (hb : Below w.heap.size w w') : w'.ownsRow base 5 1 v n xs :=
  h.kept (row := Option.none) ⟨hb.os, hb.tape, hb.output, hb.size, fun i hi _ => hb.block i hi⟩ (by cases v.ownBlock <;> simp)

def SumsRel (w : World) (ps : List (List Nat)) (k : Nat) (v i : Value) (wr : World) : Prop :=
  ∃ m, m + k = ps.length ∧ i = .int .i64 (m : Int) ∧ m ≤ 20 ∧ (upto ps m).length ≤ 500 * m ∧ wr.ownsRow (w.heap.size + 1) 5 1 v (upto ps m).length (cellsOf (upto ps m)) ∧
    wr.cell? ⟨w.heap.size, 0, none⟩ = some (.int .u32 ((crc (upto ps m) : Nat) : Int)) ∧ wr.frozen? ⟨w.heap.size, 0, none⟩ = false ∧ Below w.heap.size w wr ∧ w.heap.size + 1 ≤ wr.heap.size

set_option maxRecDepth 100000 in
theorem sums_any {w : World} {A : Option Addr} {c : Nat} {ps : List (List Nat)} (ht : TabIn w) (hp : Parts w w.heap.size A ps) (hs : ∀ l ∈ ps, Sml l) (hn : ps.length ≤ maxLen) :
    Calls Tryd.prog 3 #[.slice A ps.length c] w (Fine w) := by
  have F := Lib.hid (first_true ht)
  have HT := Lib.hid ht
  have HP := Lib.hid hp
  have HS := Lib.hid hs
  unfold maxLen at hn
  clear ht hp hs
  go_enter Tryd.func3, Tryd.ntmps3
  go_wp2_with fail
  refine F.out.mono ?_
  rintro e w1 ⟨rfl, hb1⟩
  have T1 := Lib.hid (HT.out.below HT.out.1 hb1)
  have P1 := Lib.hid ((HP.out.below hb1).more hb1.size)
  have B1 := Lib.hid hb1
  clear hb1 F HT HP
  go_wp2_with fail
  go_loopg [5, 12] ps.length (fun k v i wr => SumsRel w1 ps k v i wr)
  case atStart => exact ⟨0, by simp, rfl, by omega, by simp [upto], World.ownsRow_nil _ _ _ _, by rw [crc_none]; simp, by simp, (Below.refl _ _).alloc (Nat.le_refl _) _, by simp⟩
  case round =>
    obtain ⟨m, hmk, hi, hm20, hlen, hown, hc, hf, hb, hsz⟩ := hrel
    subst hi
    have US := Lib.hid (upto_sml HS.out m)
    cases gk with
    | zero =>
      have hge : ps.length ≤ m := by omega
      obtain ⟨A2, c2, rfl, hbt⟩ := bts_of_own hown rfl
      have BT := Lib.hid hbt
      have BB := Lib.hid hb
      have TT := Lib.hid (T1.out.below T1.out.1 hb)
      clear hown hbt hb hmk
      obtain ⟨x, hx⟩ : ∃ x, x = upto ps m := ⟨_, rfl⟩
      rw [← hx] at hlen hc US BT ⊢
      clear hx
      go_wp2_with fail
      refine (of_any TT.out BT.out US.out (by omega)).mono ?_
      rintro e w2 ⟨rfl, hb2⟩
      have BT2 := Lib.hid ((BT.out.below hb2).more hb2.size)
      have BB2 := Lib.hid (BB.out.trans (hb2.mono (by have := BB.out.size; omega)))
      clear hb2
      go_wp2_with fail
      refine (ref_of BT2.out US.out (by omega)).mono ?_
      rintro e w3 ⟨rfl, hb3⟩
      have BB3 := Lib.hid (BB2.out.trans (hb3.mono BB2.out.size))
      clear hb3
      go_wp2_with (go_at_call 8; refine (nil_value _).mono ?_; rintro e w' ⟨rfl, rfl⟩)
      go_ret
      exact ⟨rfl, B1.out.trans (BB3.out.mono B1.out.size)⟩
    | succ j =>
      have hm : m < ps.length := by omega
      obtain ⟨l, hl⟩ : ∃ l, ps[m]? = some l := ⟨_, List.getElem?_eq_getElem hm⟩
      obtain ⟨b, o, rfl, hlt, hcells⟩ := P1.out (by omega)
      obtain ⟨A1, c1, h1, hbt, hA1, hmx⟩ := hcells m l hl
      have cx := (hb.cell (p := ⟨b, o + m, none⟩) hlt).trans h1
      have hbw : b < wr.heap.size := by omega
      unfold maxLen at hmx
      have LS := Lib.hid (HS.out l (List.mem_of_getElem? hl))
      have UN := Lib.hid (upto_snoc hl)
      have HM := Lib.hid hmk
      have HO := Lib.hid hown
      have BB := Lib.hid hb
      have BT := Lib.hid ((hbt.below hb).more hb.size)
      have BT0 := Lib.hid hbt
      have TT := Lib.hid (T1.out.below T1.out.1 hb)
      have HA := Lib.hid hA1
      clear hl hcells h1 hbt hA1 hmk hown hb
      by_cases hstop : 20 ≤ m ∨ 500 < l.length
      · rcases hstop with h20 | h500
        · go_wp2_with fail
          go_ret
          exact ⟨rfl, B1.out.trans (BB.out.mono B1.out.size)⟩
        · have hd : decide ((500 : Int) < (l.length : Int)) = true := by simp; omega
          go_wp2_with fail
          all_goals
            go_ret
            exact ⟨rfl, B1.out.trans (BB.out.mono B1.out.size)⟩
      · have hlt20 : m < 20 := by omega
        have h500 : l.length ≤ 500 := by omega
        have HV := Lib.hid (sum_crc (l := l) US.out)
        have H7 := Lib.hid (add_any (c := c1) TT.out BT.out LS.out (by omega) (crc_lt _) hc hf)
        obtain ⟨s, hsv⟩ : ∃ s, s = sumTo (crc (upto ps m)) l := ⟨_, rfl⟩
        rw [← hsv] at H7 HV
        have BB2 := Lib.hid (BB.out.setCell (p := ⟨w1.heap.size, 0, none⟩) (Nat.le_refl _) (.int .u32 (s : Int)))
        have HO2 := Lib.hid (ownsRow_setCell_below HO.out (a := ⟨w1.heap.size, 0, none⟩) (Nat.lt_succ_self _) (.int .u32 (s : Int)))
        have hc2 : (wr.setCell ⟨w1.heap.size, 0, none⟩ (.int .u32 (s : Int))).cell? ⟨w1.heap.size, 0, none⟩ = some (.int .u32 (s : Int)) := World.cell?_setCell_same _ _ _ hc
        have hf2 : (wr.setCell ⟨w1.heap.size, 0, none⟩ (.int .u32 (s : Int))).frozen? ⟨w1.heap.size, 0, none⟩ = false := by simp [hf]
        have hsz2 : w1.heap.size + 1 ≤ (wr.setCell ⟨w1.heap.size, 0, none⟩ (.int .u32 (s : Int))).heap.size := by simpa [World.setCell] using hsz
        clear hsv hstop
        go_wp2_with fail
        refine H7.out.mono ?_
        rintro e w2 ⟨rfl, rfl⟩
        clear H7 hc hf cx
        generalize wr.setCell ⟨w1.heap.size, 0, none⟩ (.int .u32 (s : Int)) = w2 at BB2 HO2 hc2 hf2 hsz2 ⊢
        go_wp2_with (first
          | (go_at_call 7; refine (nil_add _ _ _ _).mono ?_; rintro e w' ⟨rfl, rfl⟩)
          | (at_builtin; refine wpList_append_bts rfl _ _ rfl (w1.heap.size + 1) _ _ _ rfl HO2.out w1.heap.size A1 c1 l rfl (BT0.out.below BB2.out) HA.out (by omega) hsz2 ?_))
        intro v' w3 hown3 hgrow
        have hb23 : Below (w1.heap.size + 1) w2 w3 := (Below.refl _ _).grown hgrow hsz2 (fun k hk => (HO2.out.lt k hk).1)
        have BB3 := Lib.hid (BB2.out.trans (hb23.mono (Nat.le_succ _)))
        have hsz3 : w1.heap.size + 1 ≤ w3.heap.size := Nat.le_trans hsz2 hb23.size
        have hc3 := (hb23.cell (p := ⟨w1.heap.size, 0, none⟩) (Nat.lt_succ_self _)).trans hc2
        have hf3 := (hb23.frozen (p := ⟨w1.heap.size, 0, none⟩) (Nat.lt_succ_self _)).trans hf2
        have hown4 : w3.ownsRow (w1.heap.size + 1) 5 1 v' (upto ps (m + 1)).length (cellsOf (upto ps (m + 1))) := by
          rw [UN.out, List.length_append]
          exact hown3
        obtain ⟨A4, c4, rfl, hbt4⟩ := bts_of_own hown4 rfl
        have HO4 := Lib.hid hown4
        have BT4 := Lib.hid hbt4
        have hlen4 : (upto ps (m + 1)).length ≤ 500 * (m + 1) := by rw [UN.out, List.length_append]; omega
        have US4 := Lib.hid (upto_sml HS.out (m + 1))
        have HV4 : Hid (s = crc (upto ps (m + 1))) := by rw [UN.out]; exact HV.out
        clear hown3 hown4 hbt4 hgrow hb23 hc2 hf2 hsz2 BB2 HO2 HO BB BT UN HV
        go_wp2_with fail
        refine (value_any hc3).mono ?_
        rintro e w' ⟨rfl, rfl⟩
        go_wp2_with fail
        refine (ref_of BT4.out US4.out (by omega)).mono ?_
        rintro e w5 ⟨rfl, hb5⟩
        have BB5 := Lib.hid (BB3.out.trans (hb5.mono (Nat.le_trans (Nat.le_succ _) hsz3)))
        have HO5 := Lib.hid (own_below HO4.out hb5)
        have hc5 := (hb5.cell (p := ⟨w1.heap.size, 0, none⟩) hsz3).trans hc3
        have hf5 := (hb5.frozen (p := ⟨w1.heap.size, 0, none⟩) hsz3).trans hf3
        have hsz5 : w1.heap.size + 1 ≤ w5.heap.size := Nat.le_trans hsz3 hb5.size
        rw [← HV4.out]
        rw [HV4.out] at hc5
        have HC5 := Lib.hid hc5
        have HF5 := Lib.hid hf5
        clear hb5 hc3 hf3 hc5 hf5
        go_wp2_with fail
        go_roundg j
        case measure => omega
        case rel => exact ⟨m + 1, by have := HM.out; omega, by go_num, by omega, hlen4, HO5.out, HC5.out, HF5.out, BB5.out, hsz5⟩
end Go.Proofs.YthkmgfompoebdaaDoor
