/- The reference's Make. -/
import Derived.Test.YtpokdihnimlgkaaGreatDoorRf
import Derived.Test.YtpokdihnimlgkaaGreatDoorW
import Derived.Test.YtpokdihnimlgkaaGreatDoorMk
namespace Go.Proofs.YtpokdihnimlgkaaGreatDoor
open Go.RowKit

/-- What of the sorted names goes out. -/
def outOf (f : List UInt8 → Int) (R : List (List UInt8)) : List Ent := (R.filter fun c => decide (f c ≠ 1)).map fun c => (c, f c)
theorem outOf_skip {f : List UInt8 → Int} {R : List (List UInt8)} {m : Nat} {x : List UInt8} (h : R[m]? = some x) (hf : f x = 1) : outOf f (R.take (m + 1)) = outOf f (R.take m) := by
  unfold outOf
  rw [List.take_add_one, h]
  simp [List.filter_append, hf]
theorem outOf_put {f : List UInt8 → Int} {R : List (List UInt8)} {m : Nat} {x : List UInt8} (h : R[m]? = some x) (hf : f x ≠ 1) : outOf f (R.take (m + 1)) = outOf f (R.take m) ++ [(x, f x)] := by
  unfold outOf
  rw [List.take_add_one, h]
  simp [List.filter_append, hf]
theorem outOf_len (f : List UInt8 → Int) (R : List (List UInt8)) (m : Nat) : (outOf f (R.take m)).length ≤ m := by
  unfold outOf
  rw [List.length_map]
  exact Nat.le_trans (List.length_filter_le _ _) (by simp; omega)
theorem outOf_labs {f : List UInt8 → Int} {R : List (List UInt8)} (hR : Rises cmpC R) (h : ∀ c, f c ≠ 1 → c ∈ R) : Labs f (outOf f R) := by
  have hkeys : keys (outOf f R) = R.filter fun c => decide (f c ≠ 1) := by simp [outOf, keys, Function.comp_def]
  refine ⟨by rw [hkeys]; exact hR.filter _, fun c => ?_, fun e he => ?_⟩
  · rw [hkeys, List.mem_filter]
    simp only [decide_eq_true_eq]
    exact ⟨fun hc => hc.2, fun hc => ⟨h c hc, hc⟩⟩
  · obtain ⟨c, _, rfl⟩ := List.mem_map.1 he
    rfl

def MrRel1 (w : World) (l : List Ent) (k : Nat) (v i : Value) (wr : World) : Prop :=
  ∃ m, m + k = l.length ∧ i = .int .i64 (m : Int) ∧ (∀ x ∈ l.take m, entErr x = 0) ∧ StrRow wr w.heap.size v (keys (l.take m)) ∧ Below w.heap.size w wr
def MrRel2 (w : World) (f : List UInt8 → Int) (R : List (List UInt8)) (k : Nat) (v i : Value) (wr : World) : Prop :=
  ∃ m, m + k = R.length ∧ i = .int .i64 (m : Int) ∧ EntRow wr w.heap.size v (outOf f (R.take m)) ∧ Below w.heap.size w wr
def MrRel3 (w : World) (l : List Ent) (x : List UInt8) (k : Nat) (v i : Value) (wr : World) : Prop :=
  ∃ m, m + k = l.length ∧ i = .int .i64 (m : Int) ∧ v = .int .i64 (last (l.take m) x) ∧ Below w.heap.size w wr
theorem keys_len (l : List Ent) (m : Nat) : (keys (l.take m)).length ≤ m := by
  unfold keys
  rw [List.length_map, List.length_take]
  omega

set_option maxRecDepth 100000 in
set_option maxHeartbeats 4000000 in
theorem refMake_any {w : World} {A : Option Addr} {c : Nat} {l : List Ent} (hl : Ents w w.heap.size A l) (hx : ∀ e ∈ l, e.1.length ≤ 100000) (hn : l.length ≤ 100000) :
    Calls Tryz.prog 10 #[.slice A l.length c] w (RetLab w (MakeOut l)) := by
  have HL := Lib.hid hl
  have HX := Lib.hid hx
  clear hl hx
  go_enter Tryz.func10, Tryz.ntmps10
  go_wp2_with fail
  go_loopg [4, 15] l.length (fun k v i wr => MrRel1 w l k v i wr)
  case atStart => exact ⟨0, by simp, rfl, by simp, World.ownsRow_nil _ _ _ _, Below.refl _ _⟩
  case round =>
    obtain ⟨m, hmk, hi, hno, hrow, hb⟩ := hrel
    subst hi
    have HB := Lib.hid hb
    have HNO := Lib.hid hno
    have HROW := Lib.hid hrow
    have hsz := hb.size
    cases gk with
    | zero =>
      have hge : l.length ≤ m := by omega
      rw [List.take_of_length_le hge] at HNO hrow
      have H0 : Hid (firstErr l = 0) := firstErr_zero.2 HNO.out
      obtain ⟨A2, c2, rfl, hstr⟩ := hrow.strs
      obtain ⟨K, hK⟩ : ∃ K, K = keys l := ⟨_, rfl⟩
      rw [← hK] at hstr ⊢
      have hKl : K.length ≤ 100000 := by rw [hK, keys, List.length_map]; omega
      have HS := Lib.hid (refSort_any (c := c2) hstr (fun x h => by
        rw [hK] at h
        obtain ⟨e, he, rfl⟩ := List.mem_map.1 h
        exact HX.out e he) hKl)
      have HK := Lib.hid hK
      have hdd : decide ((m : Int) < (l.length : Int)) = false := by rw [decide_eq_false_iff_not]; omega
      clear hno hrow hb hK hstr HNO HROW
      go_wp2_with fail
      refine HS.out.mono ?_
      rintro e w1 ⟨hb1, A3, c3, R, rfl, hst3, hris, hmem⟩
      obtain ⟨f, hf⟩ : ∃ f, f = last l := ⟨_, rfl⟩
      have HF := Lib.hid hf
      have HIN : Hid (∀ x, f x ≠ 1 → x ∈ R) := fun x h => by
        rw [hf] at h
        rw [hmem x, HK.out]
        exact ⟨last_keys h, last_cat H0.out h⟩
      have HCT : Hid (∀ x ∈ R, x.length ≤ 100000) := fun x h => cat_short ((hmem x).1 h).2
      have HRIS := Lib.hid hris
      have B1 : Hid (Below w.heap.size w w1) := HB.out.trans (hb1.mono hsz)
      have HST := Lib.hid hst3
      have L1 := Lib.hid ((HL.out.below B1.out).more B1.out.size)
      have hRl : R.length ≤ K.length := by
        have hsub : R.Nodup := rises_nodup HRIS.out
        exact List.Nodup.length_le_of_subset hsub fun x h => ((hmem x).1 h).1
      clear hb1 hst3 hris hmem HS hf
      go_wp2_with fail
      go_loopg [7, 40] R.length (fun k v i wr => MrRel2 w1 f R k v i wr)
      case atStart => exact ⟨0, by simp, rfl, World.ownsRow_nil _ _ _ _, Below.refl _ _⟩
      case round =>
        obtain ⟨m2, hmk2, hi2, hrow, hb2⟩ := hrel
        subst hi2
        have HB2 := Lib.hid hb2
        have HROW := Lib.hid hrow
        have hs2 := hb2.size
        cases gk with
        | zero =>
          have hge2 : R.length ≤ m2 := by omega
          have hlen2 := outOf_len f R m2
          have HLAB : Hid (Labs (last l) (outOf f R)) := by rw [← HF.out]; exact outOf_labs HRIS.out HIN.out
          rw [List.take_of_length_le hge2] at hrow hlen2
          obtain ⟨O, hO⟩ : ∃ O, O = outOf f R := ⟨_, rfl⟩
          rw [← hO] at hrow hlen2 HLAB
          have hOx : ∀ e ∈ O, e.1.length ≤ 2000000 := fun e he => by
            rw [hO] at he
            obtain ⟨x, hx, rfl⟩ := List.mem_map.1 he
            have := HCT.out x (List.mem_filter.1 hx).1
            simp only
            omega
          obtain ⟨A4, c4, hv4, hlab⟩ := hrow.lab hOx (by unfold maxLen; omega)
          have HL4 := Lib.hid hlab
          subst hv4
          have B2 : Hid (Below w.heap.size w wr) := B1.out.trans (HB2.out.mono B1.out.size)
          clear hrow hb2 hlab hO hOx
          by_cases h8 : 8 < O.length
          · have h8' : (O.length : Int) > 8 := by omega
            go_wp2_with fail
            go_ret2
            exact ⟨B2.out, none, 0, [], 13, .inr ⟨H0.out, O, HLAB.out, .inl ⟨h8, rfl, rfl⟩⟩, rfl, lab_nil _⟩
          · have h8' : ¬ (O.length : Int) > 8 := by omega
            go_wp2_with fail
            go_ret2
            exact ⟨B2.out, A4, c4, O, 0, .inr ⟨H0.out, O, HLAB.out, .inr ⟨by omega, rfl, rfl⟩⟩, rfl, HL4.out⟩
        | succ j =>
          have hm2 : m2 < R.length := by omega
          obtain ⟨x, hx⟩ : ∃ x, R[m2]? = some x := ⟨_, List.getElem?_eq_getElem hm2⟩
          obtain ⟨b, o, rfl, hlt, hcells⟩ := (HST.out.below hb2) (by omega)
          have cx := hcells m2 x hx
          have HX2 := Lib.hid hx
          have HMK2 := Lib.hid hmk2
          have hlen2 := outOf_len f R m2
          obtain ⟨wo, hwo⟩ : ∃ wo, wo = wr := ⟨_, rfl⟩
          subst hwo
          have L2 := Lib.hid ((L1.out.below hb2).more hb2.size)
          clear hcells hx hmk2 hrow hb2
          go_wp2_with fail
          go_loopg [10, 46] l.length (fun k v i wr => MrRel3 wo l x k v i wr)
          case atStart => exact ⟨0, by simp, rfl, rfl, Below.refl _ _⟩
          case round =>
            obtain ⟨m3, hmk3, hi3, hv3, hb3⟩ := hrel
            subst hi3 hv3
            have HB3 := Lib.hid hb3
            have hs3 := hb3.size
            cases gk with
            | zero =>
              have hge3 : l.length ≤ m3 := by omega
              rw [List.take_of_length_le hge3]
              obtain ⟨y, hy⟩ : ∃ y, y = last l x := ⟨_, rfl⟩
              rw [← hy]
              have HY : Hid (y = f x) := by rw [HF.out]; exact hy
              have R3 := Lib.hid (HROW.out.below hb3)
              have B3 : Hid (Below w1.heap.size w1 wr) := HB2.out.trans (hb3.mono hs2)
              clear hb3 hy
              by_cases h1 : y = 1
              · subst h1
                have HO := Lib.hid (outOf_skip (f := f) HX2.out HY.out.symm)
                go_wp2_with fail
                go_roundg j
                case measure => omega
                case rel => exact ⟨m2 + 1, by have := HMK2.out; omega, by go_num, by rw [HO.out]; exact R3.out, B3.out⟩
              · have h1b : ((y : Int) == (1 : Int)) = false := by simpa using h1
                have HO := Lib.hid (outOf_put (f := f) HX2.out (by rw [← HY.out]; exact h1))
                have hle : (outOf f (R.take m2)).length + [(x, y)].length ≤ 1000001 := by simp; omega
                have hbase : w1.heap.size ≤ (wr.alloc (.cells #[.string (str x), .int .i64 y] 33)).heap.size := by simp; omega
                go_wp2_with (first
                  | (at_builtin; refine wpList_append_ents rfl _ _ 23 Tryz.underlying23 rfl w1.heap.size _ _ rfl (R3.out.alloc _) (wr.heap.size + 1) (some ⟨wr.heap.size, 0, none⟩) 1 [(x, y)] rfl (ents_one _ _ _) (fun h => by cases h) hle hbase ?_))
                intro v' w4 hown hb4
                have R4 := Lib.hid hown
                have B4 := Lib.hid ((B3.out.alloc B3.out.size _).trans hb4)
                clear hown hb4
                go_wp2_with fail
                go_roundg j
                case measure => omega
                case rel => exact ⟨m2 + 1, by have := HMK2.out; omega, by go_num, by rw [HO.out, ← HY.out]; exact R4.out, B4.out⟩
            | succ j3 =>
              have hm3 : m3 < l.length := by omega
              obtain ⟨⟨t, n⟩, ht⟩ : ∃ e, l[m3]? = some e := ⟨_, List.getElem?_eq_getElem hm3⟩
              obtain ⟨b2, o2, rfl, hlt2, hcells2⟩ := (L2.out.below hb3) (by omega)
              obtain ⟨c1, c2⟩ := hcells2 m3 t n ht
              have HT := Lib.hid ht
              have HMK3 := Lib.hid hmk3
              have hT2 := take_snoc ht
              by_cases he : t = x
              · have HN : Hid (last (l.take (m3 + 1)) x = n) := by unfold Hid; rw [hT2, last_snoc, if_pos he]
                have hq := str_same he
                clear hcells2 ht hmk3 hb3 he hT2
                go_wp2_with fail
                go_roundg j3
                case measure => omega
                case rel => exact ⟨m3 + 1, by have := HMK3.out; omega, by go_num, by rw [HN.out], HB3.out.alloc hs3 _⟩
              · have HN : Hid (last (l.take (m3 + 1)) x = last (l.take m3) x) := by unfold Hid; rw [hT2, last_snoc, if_neg he]
                have hq := str_differs he
                clear hcells2 ht hmk3 hb3 he hT2
                go_wp2_with fail
                go_roundg j3
                case measure => omega
                case rel => exact ⟨m3 + 1, by have := HMK3.out; omega, by go_num, by rw [HN.out], HB3.out.alloc hs3 _⟩
    | succ j =>
      have hm : m < l.length := by omega
      obtain ⟨⟨t, n⟩, hx⟩ : ∃ x, l[m]? = some x := ⟨_, List.getElem?_eq_getElem hm⟩
      obtain ⟨b, o, rfl, hlt, hcells⟩ := (HL.out.below hb) (by omega)
      obtain ⟨c1, c2⟩ := hcells m t n hx
      have HM := Lib.hid hmk
      have HXM := Lib.hid hx
      have htl : t.length ≤ 100000 := HX.out _ (List.mem_of_getElem? hx)
      have hkl := keys_len l m
      obtain ⟨W0, hW0⟩ : ∃ W0, W0 = wr.alloc (.cells #[.string (str t), .int .i64 n] 33) := ⟨_, rfl⟩
      have hB0 : Below wr.heap.size wr W0 := by rw [hW0]; exact (Below.refl _ _).alloc (Nat.le_refl _) _
      have H34 := Lib.hid (isCat_any (w := W0) htl)
      have HB0 := Lib.hid hB0
      have k0 : W0.cell? ⟨wr.heap.size, 0, none⟩ = some (.string (str t)) := by rw [hW0]; simp
      have k1 : W0.cell? ⟨wr.heap.size, 1, none⟩ = some (.int .i64 n) := by rw [hW0]; simp
      have K0 := Lib.hid k0
      have K1 := Lib.hid k1
      have hs0 : W0.heap.size = wr.heap.size + 1 := by rw [hW0]; simp
      have HS := Lib.hid hs0
      have HW0 := Lib.hid hW0
      have R0 := Lib.hid (hrow.below hB0)
      have HKEY : Hid (keys (l.take (m + 1)) = keys (l.take m) ++ [t]) := by unfold Hid keys; rw [take_snoc hx, List.map_append]; rfl
      clear hcells hx hmk hno hB0 hW0 hs0 hb hrow k0 k1
      go_wp2_with fail
      rw [← HW0.out]
      refine H34.out.mono ?_
      rintro e w1 ⟨rfl, hb1⟩
      have hS := HS.out
      have B1 : Hid (Below wr.heap.size wr w1) := HB0.out.trans (hb1.mono HB0.out.size)
      have c3 : w1.cell? ⟨wr.heap.size, 0, none⟩ = some (.string (str t)) := (hb1.cell (p := ⟨wr.heap.size, 0, none⟩) (show wr.heap.size < _ by omega)).trans K0.out
      have c4 : w1.cell? ⟨wr.heap.size, 1, none⟩ = some (.int .i64 n) := (hb1.cell (p := ⟨wr.heap.size, 1, none⟩) (show wr.heap.size < _ by omega)).trans K1.out
      have R1 := Lib.hid (R0.out.below hb1)
      have B1w : Hid (Below w.heap.size w w1) := HB.out.trans (B1.out.mono hsz)
      have hs1 := B1w.out.size
      clear hb1 H34
      cases hcat : (catOf t).isSome with
      | false =>
        have HZ : Hid (entErr (t, n) = 20) := by unfold Hid entErr; rw [if_pos hcat]
        have HF : Hid (firstErr l = 20) := by
          have := firstErr_hit HXM.out HNO.out (by rw [HZ.out]; decide)
          rw [HZ.out] at this
          exact this
        clear c1 c2 hcat
        go_wp2_with fail
        go_ret2
        exact ⟨B1w.out, none, 0, [], 20, .inl ⟨by rw [HF.out]; decide, rfl, HF.out.symm⟩, rfl, lab_nil _⟩
      | true =>
        by_cases h0 : n < 0
        · have HZ : Hid (entErr (t, n) = 21) := by unfold Hid entErr; rw [hcat, if_neg (by decide), if_pos (.inl h0)]
          have HF : Hid (firstErr l = 21) := by
            have := firstErr_hit HXM.out HNO.out (by rw [HZ.out]; decide)
            rw [HZ.out] at this
            exact this
          clear c1 c2 hcat
          go_wp2_with fail
          go_ret2
          exact ⟨B1w.out, none, 0, [], 21, .inl ⟨by rw [HF.out]; decide, rfl, HF.out.symm⟩, rfl, lab_nil _⟩
        · by_cases h3 : n > 3
          · have HZ : Hid (entErr (t, n) = 21) := by unfold Hid entErr; rw [hcat, if_neg (by decide), if_pos (.inr h3)]
            have HF : Hid (firstErr l = 21) := by
              have := firstErr_hit HXM.out HNO.out (by rw [HZ.out]; decide)
              rw [HZ.out] at this
              exact this
            clear c1 c2 hcat
            go_wp2_with fail
            go_ret2
            exact ⟨B1w.out, none, 0, [], 21, .inl ⟨by rw [HF.out]; decide, rfl, HF.out.symm⟩, rfl, lab_nil _⟩
          · have HZ : Hid (entErr (t, n) = 0) := entErr_zero.2 ⟨hcat, by show 0 ≤ n ∧ n ≤ 3; omega⟩
            have HN2 := Lib.hid (take_no (P := fun x => entErr x = 0) HXM.out HNO.out HZ.out)
            have hle : (keys (l.take m)).length + 1 ≤ 1000001 := by omega
            have hbase : w.heap.size ≤ (w1.alloc (.cells #[.string (str t)] 9)).heap.size := by simp; omega
            clear c1 c2 hcat
            go_wp2_with (first
              | (at_builtin; refine wpList_append_one rfl _ _ rfl w.heap.size _ _ rfl (World.ownsRow.alloc R1.out _) ⟨w1.heap.size, 0, none⟩ t rfl (cell_one_new _ _ _) hle hbase ?_))
            intro v' w2 hown hb2
            have R2 := Lib.hid hown
            have B2 := Lib.hid ((B1w.out.alloc hs1 _).trans hb2)
            clear hown hb2 c3 c4
            go_wp2_with fail
            go_roundg j
            case measure => omega
            case rel => exact ⟨m + 1, by have := HM.out; omega, by go_num, HN2.out, by rw [HKEY.out]; exact R2.out, B2.out⟩
end Go.Proofs.YtpokdihnimlgkaaGreatDoor
