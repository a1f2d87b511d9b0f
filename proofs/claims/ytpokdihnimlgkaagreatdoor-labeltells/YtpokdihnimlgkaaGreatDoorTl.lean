/- The law's helper 'long'; append of entries of another named slice type; the reference's Make; LabelTells, walked. (Texts Lo, Ap, Rm are laid in here, so that the claim holds fewer files.) -/
import Derived.Test.YtpokdihnimlgkaaGreatDoorFl
import Derived.Test.YtpokdihnimlgkaaGreatDoorMk
import Derived.Test.YtpokdihnimlgkaaGreatDoorRf
import Derived.Test.YtpokdihnimlgkaaGreatDoorW
import Derived.Test.YtpokdihnimlgkaaGreatDoorFi
import Derived.Test.YtpokdihnimlgkaaGreatDoorRt
import Derived.Deep.CutRange
namespace Go.Proofs.YtpokdihnimlgkaaGreatDoor
open Go.RowKit

/-- A label that the laws ask about. -/
def Short (l : List Ent) : Prop := l.length ≤ 30 ∧ ∀ e ∈ l, e.1.length ≤ 100
instance (l : List Ent) : Decidable (Short l) := by unfold Short; infer_instance
def LoRel (w : World) (l : List Ent) (k : Nat) (i : Value) (wr : World) : Prop :=
  ∃ m, m + k = l.length ∧ i = .int .i64 (m : Int) ∧ (∀ x ∈ l.take m, x.1.length ≤ 100) ∧ Below w.heap.size w wr

set_option maxRecDepth 100000 in
theorem long_any {w : World} {A : Option Addr} {c : Nat} {l : List Ent} (hl : Ents w w.heap.size A l) (hx : ∀ e ∈ l, e.1.length ≤ maxLen) (hn : l.length ≤ maxLen) :
    Calls Tryz.prog 8 #[.slice A l.length c] w (RetB w (.bool (decide (¬ Short l)))) := by
  have HL := Lib.hid hl
  have HXX := Lib.hid hx
  clear hl hx
  unfold maxLen at hn HXX
  by_cases h30 : 30 < l.length
  · have HD : Hid (decide (¬ Short l) = true) := decide_eq_true fun h => by have := h.1; omega
    go_enter Tryz.func8, Tryz.ntmps8
    go_wp2_with fail
    go_ret
    exact ⟨by rw [HD.out]; rfl, Below.refl _ _⟩
  have h30' : l.length ≤ 30 := by omega
  clear h30
  go_enter Tryz.func8, Tryz.ntmps8
  go_wp2_with fail
  go_loopg [10] l.length (fun k i wr => LoRel w l k i wr)
  case atStart => exact ⟨0, by simp, rfl, by simp, Below.refl _ _⟩
  case round =>
    obtain ⟨m, hmk, hi, hno, hb⟩ := hrel
    subst hi
    have HB := Lib.hid hb
    have HN := Lib.hid hno
    have hsz := hb.size
    cases gk with
    | zero =>
      have hge : l.length ≤ m := by omega
      have HD : Hid (decide (¬ Short l) = false) := decide_eq_false fun h => h ⟨h30', by have := HN.out; rwa [List.take_of_length_le hge] at this⟩
      clear hno hb
      go_wp2_with fail
      go_ret
      exact ⟨by rw [HD.out]; rfl, HB.out⟩
    | succ j =>
      have hm : m < l.length := by omega
      obtain ⟨⟨t, n⟩, hx⟩ : ∃ x, l[m]? = some x := ⟨_, List.getElem?_eq_getElem hm⟩
      obtain ⟨b, o, rfl, hlt, hcells⟩ := (HL.out.below hb) (by omega)
      obtain ⟨c1, c2⟩ := hcells m t n hx
      have hlt2 : b < wr.heap.size := by omega
      have HM := Lib.hid hmk
      have HX := Lib.hid hx
      have hts : (str t).size = t.length := str_size t
      have htm : t.length ≤ 9223372036854775807 := by
        have := HXX.out _ (List.mem_of_getElem? hx)
        simp only at this
        omega
      by_cases ht : 100 < t.length
      · have HD : Hid (decide (¬ Short l) = true) := decide_eq_true fun h => by
          have := h.2 _ (List.mem_of_getElem? HX.out)
          simp only at this
          omega
        clear hcells hx hmk hno hb
        go_wp2_with fail
        go_ret
        exact ⟨by rw [HD.out]; rfl, HB.out.alloc hsz _⟩
      · have HN2 := Lib.hid (take_no (P := fun x => x.1.length ≤ 100) HX.out HN.out (by show t.length ≤ 100; omega))
        clear hcells hx hmk hno hb
        go_wp2_with fail
        go_roundg j
        case measure => omega
        case rel => exact ⟨m + 1, by have := HM.out; omega, by go_num, HN2.out, HB.out.alloc hsz _⟩
end Go.Proofs.YtpokdihnimlgkaaGreatDoor
namespace Go.Proofs.YtpokdihnimlgkaaGreatDoor
open Go.RowKit Go.Shelf

theorem append_types (ty : TypeId) (b1 b2 : Option Addr) (l1 l2 c1 c2 : Nat) (w : World) : (Builtin.append_ #[22, 23] ty #[.slice b1 l1 c1, .slice b2 l2 c2]).run Tryz.prog w = (Builtin.append_ #[22, 22] ty #[.slice b1 l1 c1, .slice b2 l2 c2]).run Tryz.prog w := by
  simp only [Builtin.append_, List.getElem?_toArray, List.getElem?_cons_zero, List.getElem?_cons_succ, Sem.run_bind, run_underlying Tryz.underlying22, run_underlying Tryz.underlying23, Result.andThen_ok]

/-- append(out, l...), out a row of entries of the call's own, l a label. -/
theorem wpList_append_lab {w : World} {ops : Array Oper} {rest : List Oper} {o : Oper} {a : Act} {Q : Exit → Act → World → Prop} (hgd : o.guard = none) (s x : Operand)
    (ho : o.op = .call { callee := .builtin .append, args := #[s, x], argTypes := #[22, 23] }) (base : Nat) (v : Value) (ys : List Ent) (hs : a.eval s = v)
    (hown : EntRow w base v ys) (B : Nat) (A : Option Addr) (c : Nat) (xs : List Ent) (hxe : a.eval x = .slice A xs.length c) (hx : Ents w B A xs) (hc : A = none → c = 0)
    (hn : ys.length + xs.length ≤ 1000001) (hbase : base ≤ w.heap.size)
    (h : ∀ v' w', EntRow w' base v' (ys ++ xs) → Below base w w' → wpList Tryz.prog ops Q rest (a.put o.dst v') w') : wpList Tryz.prog ops Q (o :: rest) a w := by
  obtain ⟨i0, hi, hz0, hz1, hz2⟩ := info_parts Tryz.info33
  obtain ⟨A0, c0, hv, _, _⟩ := hown.ents
  subst hv
  refine wpList_plain hgd fun K hK => ?_
  cases A with
  | none =>
    have hx0 := hx.none
    subst hx0
    rw [hc rfl] at hxe
    have hrun := run_append_owned_none (P := Tryz.prog) (w := w) base 22 o.type 33 i0 2 Tryz.underlying22 hi _ ys.length _ hown
    unfold Oper.wp
    simp [execOp, ho, resolve, invoke, builtin, hs, hxe, append_types, hrun, Result.andThen]
    exact hK _ _ (h _ w (by simpa using hown) (Below.refl _ _))
  | some ad =>
    obtain ⟨v', w', hr, h2, h3, _⟩ := run_append_own (P := Tryz.prog) w base 22 o.type 33 i0 _ 2 24 Tryz.underlying22 hi hz0 hz1 hz2 rfl (by decide) _ ys.length _ hown ad xs.length c (entCells xs) (entCells_length xs) hx.cells (entCells_one xs) (by unfold maxLen; omega) (by omega) hbase
    unfold Oper.wp
    simp [execOp, ho, resolve, invoke, builtin, hs, hxe, append_types, hr, Result.andThen]
    refine hK _ _ (h v' w' (by unfold EntRow; rw [entCells_append, List.length_append]; exact h2) ((Below.refl base w).grown h3 hbase fun k e => ?_))
    exact (World.ownsRow.lt hown k e).1
/-- An empty slice of entries, just laid. -/
theorem entRow_empty (w : World) : EntRow (w.alloc (.cells #[] 33)) w.heap.size (.slice (some ⟨w.heap.size, 0, none⟩) 0 0) [] :=
  World.ownsRow_made w #[] 0 (Nat.le_refl _) (by unfold maxLen; omega) rfl
end Go.Proofs.YtpokdihnimlgkaaGreatDoor
namespace Go.Proofs.YtpokdihnimlgkaaGreatDoor
open Go.RowKit

/-- What of the sorted names goes out. -/
def outOf (f : List UInt8 → Int) (R : List (List UInt8)) : List Ent := (R.filter fun c => decide (f c ≠ 1)).map fun c => (c, f c)
theorem outOf_skip {f : List UInt8 → Int} {R : List (List UInt8)} {m : Nat} {x : List UInt8} (h : R[m]? = some x) (hf : f x = 1) : outOf f (R.take (m + 1)) = outOf f (R.take m) := by
  unfold outOf
  rw [List.take_add_one, h]
  simp [List.filter_append, hf]
theorem outOf_put {f : List UInt8 → Int} {R : List (List UInt8)} {m : Nat} {x : List UInt8} (h : R[m]? = some x) (hf : f x ≠ 1) : outOf f (R.take (m + 1)) = outOf f (R.take m) ++ [(x, f x)] := by
  unfold outOf
  rw [List.take_add_one, h]
  simp [List.filter_append, hf]
theorem outOf_len (f : List UInt8 → Int) (R : List (List UInt8)) (m : Nat) : (outOf f (R.take m)).length ≤ m := by
  unfold outOf
  rw [List.length_map]
  exact Nat.le_trans (List.length_filter_le _ _) (by simp; omega)
theorem outOf_labs {f : List UInt8 → Int} {R : List (List UInt8)} (hR : Rises cmpC R) (h : ∀ c, f c ≠ 1 → c ∈ R) : Labs f (outOf f R) := by
  have hkeys : keys (outOf f R) = R.filter fun c => decide (f c ≠ 1) := by simp [outOf, keys, Function.comp_def]
  refine ⟨by rw [hkeys]; exact hR.filter _, fun c => ?_, fun e he => ?_⟩
  · rw [hkeys, List.mem_filter]
    simp only [decide_eq_true_eq]
    exact ⟨fun hc => hc.2, fun hc => ⟨h c hc, hc⟩⟩
  · obtain ⟨c, _, rfl⟩ := List.mem_map.1 he
    rfl

def MrRel1 (w : World) (l : List Ent) (k : Nat) (v i : Value) (wr : World) : Prop :=
  ∃ m, m + k = l.length ∧ i = .int .i64 (m : Int) ∧ (∀ x ∈ l.take m, entErr x = 0) ∧ StrRow wr w.heap.size v (keys (l.take m)) ∧ Below w.heap.size w wr
def MrRel2 (w : World) (f : List UInt8 → Int) (R : List (List UInt8)) (k : Nat) (v i : Value) (wr : World) : Prop :=
  ∃ m, m + k = R.length ∧ i = .int .i64 (m : Int) ∧ EntRow wr w.heap.size v (outOf f (R.take m)) ∧ Below w.heap.size w wr
def MrRel3 (w : World) (l : List Ent) (x : List UInt8) (k : Nat) (v i : Value) (wr : World) : Prop :=
  ∃ m, m + k = l.length ∧ i = .int .i64 (m : Int) ∧ v = .int .i64 (last (l.take m) x) ∧ Below w.heap.size w wr
theorem keys_len (l : List Ent) (m : Nat) : (keys (l.take m)).length ≤ m := by
  unfold keys
  rw [List.length_map, List.length_take]
  omega

set_option maxRecDepth 100000 in
set_option maxHeartbeats 4000000 in
theorem refMake_any {w : World} {A : Option Addr} {c : Nat} {l : List Ent} (hl : Ents w w.heap.size A l) (hx : ∀ e ∈ l, e.1.length ≤ 100000) (hn : l.length ≤ 100000) :
    Calls Tryz.prog 10 #[.slice A l.length c] w (RetLab w (MakeOut l)) := by
  have HL := Lib.hid hl
  have HX := Lib.hid hx
  clear hl hx
  go_enter Tryz.func10, Tryz.ntmps10
  go_wp2_with fail
  go_loopg [4, 15] l.length (fun k v i wr => MrRel1 w l k v i wr)
  case atStart => exact ⟨0, by simp, rfl, by simp, World.ownsRow_nil _ _ _ _, Below.refl _ _⟩
  case round =>
    obtain ⟨m, hmk, hi, hno, hrow, hb⟩ := hrel
    subst hi
    have HB := Lib.hid hb
    have HNO := Lib.hid hno
    have HROW := Lib.hid hrow
    have hsz := hb.size
    cases gk with
    | zero =>
      have hge : l.length ≤ m := by omega
      rw [List.take_of_length_le hge] at HNO hrow
      have H0 : Hid (firstErr l = 0) := firstErr_zero.2 HNO.out
      obtain ⟨A2, c2, rfl, hstr⟩ := hrow.strs
      obtain ⟨K, hK⟩ : ∃ K, K = keys l := ⟨_, rfl⟩
      rw [← hK] at hstr ⊢
      have hKl : K.length ≤ 100000 := by rw [hK, keys, List.length_map]; omega
      have HS := Lib.hid (refSort_any (c := c2) hstr (fun x h => by
        rw [hK] at h
        obtain ⟨e, he, rfl⟩ := List.mem_map.1 h
        exact HX.out e he) hKl)
      have HK := Lib.hid hK
      have hdd : decide ((m : Int) < (l.length : Int)) = false := by rw [decide_eq_false_iff_not]; omega
      clear hno hrow hb hK hstr HNO HROW
      go_wp2_with fail
      refine HS.out.mono ?_
      rintro e w1 ⟨hb1, A3, c3, R, rfl, hst3, hris, hmem⟩
      obtain ⟨f, hf⟩ : ∃ f, f = last l := ⟨_, rfl⟩
      have HF := Lib.hid hf
      have HIN : Hid (∀ x, f x ≠ 1 → x ∈ R) := fun x h => by
        rw [hf] at h
        rw [hmem x, HK.out]
        exact ⟨last_keys h, last_cat H0.out h⟩
      have HCT : Hid (∀ x ∈ R, x.length ≤ 100000) := fun x h => cat_short ((hmem x).1 h).2
      have HRIS := Lib.hid hris
      have B1 : Hid (Below w.heap.size w w1) := HB.out.trans (hb1.mono hsz)
      have HST := Lib.hid hst3
      have L1 := Lib.hid ((HL.out.below B1.out).more B1.out.size)
      have hRl : R.length ≤ K.length := by
        have hsub : R.Nodup := rises_nodup HRIS.out
        exact List.Nodup.length_le_of_subset hsub fun x h => ((hmem x).1 h).1
      clear hb1 hst3 hris hmem HS hf
      go_wp2_with fail
      go_loopg [7, 40] R.length (fun k v i wr => MrRel2 w1 f R k v i wr)
      case atStart => exact ⟨0, by simp, rfl, World.ownsRow_nil _ _ _ _, Below.refl _ _⟩
      case round =>
        obtain ⟨m2, hmk2, hi2, hrow, hb2⟩ := hrel
        subst hi2
        have HB2 := Lib.hid hb2
        have HROW := Lib.hid hrow
        have hs2 := hb2.size
        cases gk with
        | zero =>
          have hge2 : R.length ≤ m2 := by omega
          have hlen2 := outOf_len f R m2
          have HLAB : Hid (Labs (last l) (outOf f R)) := by rw [← HF.out]; exact outOf_labs HRIS.out HIN.out
          rw [List.take_of_length_le hge2] at hrow hlen2
          obtain ⟨O, hO⟩ : ∃ O, O = outOf f R := ⟨_, rfl⟩
          rw [← hO] at hrow hlen2 HLAB
          have hOx : ∀ e ∈ O, e.1.length ≤ 2000000 := fun e he => by
            rw [hO] at he
            obtain ⟨x, hx, rfl⟩ := List.mem_map.1 he
            have := HCT.out x (List.mem_filter.1 hx).1
            simp only
            omega
          obtain ⟨A4, c4, hv4, hlab⟩ := hrow.lab hOx (by unfold maxLen; omega)
          have HL4 := Lib.hid hlab
          subst hv4
          have B2 : Hid (Below w.heap.size w wr) := B1.out.trans (HB2.out.mono B1.out.size)
          clear hrow hb2 hlab hO hOx
          by_cases h8 : 8 < O.length
          · have h8' : (O.length : Int) > 8 := by omega
            go_wp2_with fail
            go_ret2
            exact ⟨B2.out, none, 0, [], 13, .inr ⟨H0.out, O, HLAB.out, .inl ⟨h8, rfl, rfl⟩⟩, rfl, lab_nil _⟩
          · have h8' : ¬ (O.length : Int) > 8 := by omega
            go_wp2_with fail
            go_ret2
            exact ⟨B2.out, A4, c4, O, 0, .inr ⟨H0.out, O, HLAB.out, .inr ⟨by omega, rfl, rfl⟩⟩, rfl, HL4.out⟩
        | succ j =>
          have hm2 : m2 < R.length := by omega
          obtain ⟨x, hx⟩ : ∃ x, R[m2]? = some x := ⟨_, List.getElem?_eq_getElem hm2⟩
          obtain ⟨b, o, rfl, hlt, hcells⟩ := (HST.out.below hb2) (by omega)
          have cx := hcells m2 x hx
          have HX2 := Lib.hid hx
          have HMK2 := Lib.hid hmk2
          have hlen2 := outOf_len f R m2
          obtain ⟨wo, hwo⟩ : ∃ wo, wo = wr := ⟨_, rfl⟩
          subst hwo
          have L2 := Lib.hid ((L1.out.below hb2).more hb2.size)
          clear hcells hx hmk2 hrow hb2
          go_wp2_with fail
          go_loopg [10, 46] l.length (fun k v i wr => MrRel3 wo l x k v i wr)
          case atStart => exact ⟨0, by simp, rfl, rfl, Below.refl _ _⟩
          case round =>
            obtain ⟨m3, hmk3, hi3, hv3, hb3⟩ := hrel
            subst hi3 hv3
            have HB3 := Lib.hid hb3
            have hs3 := hb3.size
            cases gk with
            | zero =>
              have hge3 : l.length ≤ m3 := by omega
              rw [List.take_of_length_le hge3]
              obtain ⟨y, hy⟩ : ∃ y, y = last l x := ⟨_, rfl⟩
              rw [← hy]
              have HY : Hid (y = f x) := by rw [HF.out]; exact hy
              have R3 := Lib.hid (HROW.out.below hb3)
              have B3 : Hid (Below w1.heap.size w1 wr) := HB2.out.trans (hb3.mono hs2)
              clear hb3 hy
              by_cases h1 : y = 1
              · subst h1
                have HO := Lib.hid (outOf_skip (f := f) HX2.out HY.out.symm)
                go_wp2_with fail
                go_roundg j
                case measure => omega
                case rel => exact ⟨m2 + 1, by have := HMK2.out; omega, by go_num, by rw [HO.out]; exact R3.out, B3.out⟩
              · have h1b : ((y : Int) == (1 : Int)) = false := by simpa using h1
                have HO := Lib.hid (outOf_put (f := f) HX2.out (by rw [← HY.out]; exact h1))
                have hle : (outOf f (R.take m2)).length + [(x, y)].length ≤ 1000001 := by simp; omega
                have hbase : w1.heap.size ≤ (wr.alloc (.cells #[.string (str x), .int .i64 y] 33)).heap.size := by simp; omega
                go_wp2_with (first
                  | (at_builtin; refine wpList_append_ents rfl _ _ 23 Tryz.underlying23 rfl w1.heap.size _ _ rfl (R3.out.alloc _) (wr.heap.size + 1) (some ⟨wr.heap.size, 0, none⟩) 1 [(x, y)] rfl (ents_one _ _ _) (fun h => by cases h) hle hbase ?_))
                intro v' w4 hown hb4
                have R4 := Lib.hid hown
                have B4 := Lib.hid ((B3.out.alloc B3.out.size _).trans hb4)
                clear hown hb4
                go_wp2_with fail
                go_roundg j
                case measure => omega
                case rel => exact ⟨m2 + 1, by have := HMK2.out; omega, by go_num, by rw [HO.out, ← HY.out]; exact R4.out, B4.out⟩
            | succ j3 =>
              have hm3 : m3 < l.length := by omega
              obtain ⟨⟨t, n⟩, ht⟩ : ∃ e, l[m3]? = some e := ⟨_, List.getElem?_eq_getElem hm3⟩
              obtain ⟨b2, o2, rfl, hlt2, hcells2⟩ := (L2.out.below hb3) (by omega)
              obtain ⟨c1, c2⟩ := hcells2 m3 t n ht
              have HT := Lib.hid ht
              have HMK3 := Lib.hid hmk3
              have hT2 := take_snoc ht
              by_cases he : t = x
              · have HN : Hid (last (l.take (m3 + 1)) x = n) := by unfold Hid; rw [hT2, last_snoc, if_pos he]
                have hq := str_same he
                clear hcells2 ht hmk3 hb3 he hT2
                go_wp2_with fail
                go_roundg j3
                case measure => omega
                case rel => exact ⟨m3 + 1, by have := HMK3.out; omega, by go_num, by rw [HN.out], HB3.out.alloc hs3 _⟩
              · have HN : Hid (last (l.take (m3 + 1)) x = last (l.take m3) x) := by unfold Hid; rw [hT2, last_snoc, if_neg he]
                have hq := str_differs he
                clear hcells2 ht hmk3 hb3 he hT2
                go_wp2_with fail
                go_roundg j3
                case measure => omega
                case rel => exact ⟨m3 + 1, by have := HMK3.out; omega, by go_num, by rw [HN.out], HB3.out.alloc hs3 _⟩
    | succ j =>
      have hm : m < l.length := by omega
      obtain ⟨⟨t, n⟩, hx⟩ : ∃ x, l[m]? = some x := ⟨_, List.getElem?_eq_getElem hm⟩
      obtain ⟨b, o, rfl, hlt, hcells⟩ := (HL.out.below hb) (by omega)
      obtain ⟨c1, c2⟩ := hcells m t n hx
      have HM := Lib.hid hmk
      have HXM := Lib.hid hx
      have htl : t.length ≤ 100000 := HX.out _ (List.mem_of_getElem? hx)
      have hkl := keys_len l m
      obtain ⟨W0, hW0⟩ : ∃ W0, W0 = wr.alloc (.cells #[.string (str t), .int .i64 n] 33) := ⟨_, rfl⟩
      have hB0 : Below wr.heap.size wr W0 := by rw [hW0]; exact (Below.refl _ _).alloc (Nat.le_refl _) _
      have H34 := Lib.hid (isCat_any (w := W0) htl)
      have HB0 := Lib.hid hB0
      have k0 : W0.cell? ⟨wr.heap.size, 0, none⟩ = some (.string (str t)) := by rw [hW0]; simp
      have k1 : W0.cell? ⟨wr.heap.size, 1, none⟩ = some (.int .i64 n) := by rw [hW0]; simp
      have K0 := Lib.hid k0
      have K1 := Lib.hid k1
      have hs0 : W0.heap.size = wr.heap.size + 1 := by rw [hW0]; simp
      have HS := Lib.hid hs0
      have HW0 := Lib.hid hW0
      have R0 := Lib.hid (hrow.below hB0)
      have HKEY : Hid (keys (l.take (m + 1)) = keys (l.take m) ++ [t]) := by unfold Hid keys; rw [take_snoc hx, List.map_append]; rfl
      clear hcells hx hmk hno hB0 hW0 hs0 hb hrow k0 k1
      go_wp2_with fail
      rw [← HW0.out]
      refine H34.out.mono ?_
      rintro e w1 ⟨rfl, hb1⟩
      have hS := HS.out
      have B1 : Hid (Below wr.heap.size wr w1) := HB0.out.trans (hb1.mono HB0.out.size)
      have c3 : w1.cell? ⟨wr.heap.size, 0, none⟩ = some (.string (str t)) := (hb1.cell (p := ⟨wr.heap.size, 0, none⟩) (show wr.heap.size < _ by omega)).trans K0.out
      have c4 : w1.cell? ⟨wr.heap.size, 1, none⟩ = some (.int .i64 n) := (hb1.cell (p := ⟨wr.heap.size, 1, none⟩) (show wr.heap.size < _ by omega)).trans K1.out
      have R1 := Lib.hid (R0.out.below hb1)
      have B1w : Hid (Below w.heap.size w w1) := HB.out.trans (B1.out.mono hsz)
      have hs1 := B1w.out.size
      clear hb1 H34
      cases hcat : (catOf t).isSome with
      | false =>
        have HZ : Hid (entErr (t, n) = 20) := by unfold Hid entErr; rw [if_pos hcat]
        have HF : Hid (firstErr l = 20) := by
          have := firstErr_hit HXM.out HNO.out (by rw [HZ.out]; decide)
          rw [HZ.out] at this
          exact this
        clear c1 c2 hcat
        go_wp2_with fail
        go_ret2
        exact ⟨B1w.out, none, 0, [], 20, .inl ⟨by rw [HF.out]; decide, rfl, HF.out.symm⟩, rfl, lab_nil _⟩
      | true =>
        by_cases h0 : n < 0
        · have HZ : Hid (entErr (t, n) = 21) := by unfold Hid entErr; rw [hcat, if_neg (by decide), if_pos (.inl h0)]
          have HF : Hid (firstErr l = 21) := by
            have := firstErr_hit HXM.out HNO.out (by rw [HZ.out]; decide)
            rw [HZ.out] at this
            exact this
          clear c1 c2 hcat
          go_wp2_with fail
          go_ret2
          exact ⟨B1w.out, none, 0, [], 21, .inl ⟨by rw [HF.out]; decide, rfl, HF.out.symm⟩, rfl, lab_nil _⟩
        · by_cases h3 : n > 3
          · have HZ : Hid (entErr (t, n) = 21) := by unfold Hid entErr; rw [hcat, if_neg (by decide), if_pos (.inr h3)]
            have HF : Hid (firstErr l = 21) := by
              have := firstErr_hit HXM.out HNO.out (by rw [HZ.out]; decide)
              rw [HZ.out] at this
              exact this
            clear c1 c2 hcat
            go_wp2_with fail
            go_ret2
            exact ⟨B1w.out, none, 0, [], 21, .inl ⟨by rw [HF.out]; decide, rfl, HF.out.symm⟩, rfl, lab_nil _⟩
          · have HZ : Hid (entErr (t, n) = 0) := entErr_zero.2 ⟨hcat, by show 0 ≤ n ∧ n ≤ 3; omega⟩
            have HN2 := Lib.hid (take_no (P := fun x => entErr x = 0) HXM.out HNO.out HZ.out)
            have hle : (keys (l.take m)).length + 1 ≤ 1000001 := by omega
            have hbase : w.heap.size ≤ (w1.alloc (.cells #[.string (str t)] 9)).heap.size := by simp; omega
            clear c1 c2 hcat
            go_wp2_with (first
              | (at_builtin; refine wpList_append_one rfl _ _ rfl w.heap.size _ _ rfl (World.ownsRow.alloc R1.out _) ⟨w1.heap.size, 0, none⟩ t rfl (cell_one_new _ _ _) hle hbase ?_))
            intro v' w2 hown hb2
            have R2 := Lib.hid hown
            have B2 := Lib.hid ((B1w.out.alloc hs1 _).trans hb2)
            clear hown hb2 c3 c4
            go_wp2_with fail
            go_roundg j
            case measure => omega
            case rel => exact ⟨m + 1, by have := HM.out; omega, by go_num, HN2.out, by rw [HKEY.out]; exact R2.out, B2.out⟩
end Go.Proofs.YtpokdihnimlgkaaGreatDoor
namespace Go.Proofs.YtpokdihnimlgkaaGreatDoor
open Go.RowKit

/-- A pen, just made. -/
theorem pen_new (w : World) : PenB (w.alloc (.cells #[.slice none 0 0] 37)) w.heap.size w.heap.size [] :=
  ⟨none, ⟨.slice none 0 0, by simp, by simp, rfl, World.ownsRow_nil _ _ _ _, by simp⟩, Nat.le_refl _, fun j h => by cases h⟩
theorem MakeOut.short {l m : List Ent} {n : Int} (h : MakeOut l m n) : m.length ≤ 8 := by
  rcases h with ⟨_, rfl, _⟩ | ⟨_, p, _, ⟨_, rfl, _⟩ | ⟨h5, rfl, _⟩⟩
  · simp
  · simp
  · exact h5
theorem WithOut.short {l m : List Ent} {s : List UInt8} {n z : Int} (h : WithOut l s n m z) : m.length ≤ 8 := by
  rcases h with ⟨_, rfl, _⟩ | ⟨_, h⟩
  · simp
  · exact h.short

set_option maxRecDepth 100000 in
set_option maxHeartbeats 8000000 in
theorem tells_any {w : World} {A : Option Addr} {c : Nat} {l : List Ent} {s : List UInt8} {n : Int} (he : Env w) (hl : Ents w w.heap.size A l) (hnil : A = none → c = 0) (hx : ∀ e ∈ l, e.1.length ≤ maxLen) (hn : l.length ≤ maxLen) (hw : Wide l) (hsl : s.length ≤ 281474976710656) :
    Calls Tryz.prog 3 #[.slice A l.length c, .string (str s), .int .i64 n] w (Fine w) := by
  have H7 := Lib.hid (first_any he)
  have HE := Lib.hid he
  have HL := Lib.hid hl
  have HX := Lib.hid hx
  have HWD := Lib.hid hw
  have hss : (str s).size = s.length := str_size s
  clear he hl hx hw
  go_enter Tryz.func3, Tryz.ntmps3
  go_wp2_with fail
  refine H7.out.mono ?_
  rintro e w1 ⟨rfl, hb1⟩
  have B1 := Lib.hid hb1
  have E1 := Lib.hid (HE.out.on hb1)
  have L1 := Lib.hid ((HL.out.below hb1).more hb1.size)
  have H8 := Lib.hid (long_any (c := c) L1.out HX.out hn)
  clear hb1 H7
  go_wp2_with fail
  refine H8.out.mono ?_
  rintro e w2 ⟨rfl, hb2⟩
  have B2 : Hid (Below w.heap.size w w2) := B1.out.trans (hb2.mono B1.out.size)
  have E2 := Lib.hid (E1.out.on hb2)
  have L2 := Lib.hid ((L1.out.below hb2).more hb2.size)
  clear hb2 H8 E1 L1
  by_cases hsh : ¬ Short l
  · rw [decide_eq_true hsh]
    go_wp2_with fail
    go_ret
    exact ⟨rfl, B2.out⟩
  replace hsh := Decidable.not_not.1 hsh
  rw [decide_eq_false (fun h => h hsh)]
  by_cases hso : 100 < s.length
  · have hgt : (s.length : Int) > 100 := by omega
    go_wp2_with fail
    go_ret
    exact ⟨rfl, B2.out⟩
  have hle : ¬ (s.length : Int) > 100 := by omega
  have LAB2 : Hid (Lab w2 A c l) := ⟨L2.out, hnil, fun e h => Nat.le_trans (hsh.2 e h) (by omega), hn⟩
  have SL : Hid (∀ e ∈ l, e.1.length ≤ 100) := hsh.2
  have SL5 : Hid (∀ e ∈ l, e.1.length ≤ 100000) := fun e h => Nat.le_trans (hsh.2 e h) (by omega)
  have h30 : l.length ≤ 30 := hsh.1
  have H9 := Lib.hid (make_any (c := c) E2.out LAB2.out.ents LAB2.out.txt (by omega))
  clear hso hsh L2 HX
  go_wp2_with fail
  refine H9.out.mono ?_
  rintro e w3 ⟨hb3, M, cm, m, z1, hq1, rfl, hl1⟩
  have B3 : Hid (Below w.heap.size w w3) := B2.out.trans (hb3.mono B2.out.size)
  have E3 := Lib.hid (E2.out.on hb3)
  have LL3 := Lib.hid (LAB2.out.on hb3)
  have LM3 := Lib.hid hl1
  have Q1 := Lib.hid hq1
  have H10 := Lib.hid (refMake_any (c := c) LL3.out.ents SL5.out (by omega))
  clear hb3 hl1 hq1 H9 E2 LAB2
  go_wp2_with fail
  refine H10.out.mono ?_
  rintro e w4 ⟨hb4, X, cx, x, z2, hq2, rfl, hl2⟩
  obtain ⟨rfl, rfl⟩ := Q1.out.uniq hq2
  have B4 : Hid (Below w.heap.size w w4) := B3.out.trans (hb4.mono B3.out.size)
  have E4 := Lib.hid (E3.out.on hb4)
  have LL4 := Lib.hid (LL3.out.on hb4)
  have LM4 := Lib.hid (LM3.out.on hb4)
  have LX4 := Lib.hid hl2
  have H11 := Lib.hid (with_any (n := n) (s := s) E4.out LL4.out (by omega))
  clear hb4 hl2 hq2 H10 E3 LL3 LM3
  go_wp2_with fail
  refine H11.out.mono ?_
  rintro e w5 ⟨hb5, V, cv, v, z3, hq3, rfl, hl3⟩
  have B5 : Hid (Below w.heap.size w w5) := B4.out.trans (hb5.mono B4.out.size)
  have E5 := Lib.hid (E4.out.on hb5)
  have LL5 := Lib.hid (LL4.out.on hb5)
  have LM5 := Lib.hid (LM4.out.on hb5)
  have LX5 := Lib.hid (LX4.out.on hb5)
  have LV5 := Lib.hid hl3
  have Q3 := Lib.hid hq3
  have hal : Below w5.heap.size w5 (w5.alloc (.cells #[] 33)) := (Below.refl _ _).alloc (Nat.le_refl _) _
  have HAL := Lib.hid hal
  have EL := Lib.hid (LL5.out.on hal).ents
  have hle1 : ([] : List Ent).length + l.length ≤ 1000001 := by simp; omega
  have hbase1 : w5.heap.size ≤ (w5.alloc (.cells #[] 33)).heap.size := by simp
  clear hb5 hl3 hq3 H11 E4 LL4 LM4 LX4 hal
  go_wp2_with (first
    | (at_builtin; refine wpList_append_lab rfl _ _ rfl w5.heap.size _ [] rfl (entRow_empty w5) _ A c l rfl EL.out hnil hle1 hbase1 ?_))
  intro v1 w6 hr6 hb6
  have B6 : Hid (Below w5.heap.size w5 w6) := HAL.out.trans hb6
  have R6 : Hid (EntRow w6 w5.heap.size v1 l) := by unfold Hid; simpa using hr6
  have hs6 := B6.out.size
  have hle2 : l.length + [(s, n)].length ≤ 1000001 := by simp; omega
  have hbase2 : w5.heap.size ≤ (w6.alloc (.cells #[.string (str s), .int .i64 n] 33)).heap.size := by simp; omega
  clear hr6 hb6
  go_wp2_with (first
    | (at_builtin; refine wpList_append_ents rfl _ _ 22 Tryz.underlying22 rfl w5.heap.size _ _ rfl (R6.out.alloc _) (w6.heap.size + 1) (some ⟨w6.heap.size, 0, none⟩) 1 [(s, n)] rfl (ents_one _ _ _) (fun h => by cases h) hle2 hbase2 ?_))
  intro v2 w7 hr7 hb7
  have B7 : Hid (Below w5.heap.size w5 w7) := (B6.out.alloc hs6 _).trans hb7
  obtain ⟨P, hP⟩ : ∃ P, P = l ++ [(s, n)] := ⟨_, rfl⟩
  rw [← hP] at hr7
  obtain ⟨A7, c7, rfl, _, he7⟩ := hr7.ents
  have H10b := Lib.hid (refMake_any (c := c7) he7 (fun e h => by
    rw [hP] at h
    rcases List.mem_append.1 h with h | h
    · exact SL5.out e h
    · simp at h
      rw [h]
      show s.length ≤ 100000
      omega) (by rw [hP]; simp; omega))
  have HP := Lib.hid hP
  clear hr7 hb7 he7 hP R6 HAL EL
  go_wp2_with fail
  refine H10b.out.mono ?_
  rintro e w8 ⟨hb8, Y0, cy0, y0, z4, hq4, rfl, hl4⟩
  have B8n : Below w5.heap.size w5 w8 := B7.out.trans (hb8.mono B7.out.size)
  have B8 : Hid (Below w.heap.size w w8) := B5.out.trans (B8n.mono B5.out.size)
  have E8 := Lib.hid (E5.out.on B8n)
  have LL8 := Lib.hid (LL5.out.on B8n)
  have LM8 := Lib.hid (LM5.out.on B8n)
  have LX8 := Lib.hid (LX5.out.on B8n)
  have LV8 := Lib.hid (LV5.out.on B8n)
  have LY8 := Lib.hid hl4
  have Q4 := Lib.hid hq4
  obtain ⟨q, hq⟩ : ∃ q, q = decide (RightL l) := ⟨_, rfl⟩
  have H12 := Lib.hid (refRight_any (c := c) LL8.out.ents SL5.out LL8.out.len)
  rw [← hq] at H12
  have HQ := Lib.hid hq
  clear hb8 hl4 hq4 B8n H10b E5 LL5 LM5 LX5 LV5 hq B6 B7
  go_wp2_with fail
  refine H12.out.mono ?_
  rintro e w9 ⟨rfl, hb9⟩
  have B9 : Hid (Below w.heap.size w w9) := B8.out.trans (hb9.mono B8.out.size)
  have E9 := Lib.hid (E8.out.on hb9)
  have LL9 := Lib.hid (LL8.out.on hb9)
  have LM9 := Lib.hid (LM8.out.on hb9)
  have LX9 := Lib.hid (LX8.out.on hb9)
  have LV9 := Lib.hid (LV8.out.on hb9)
  have LY9 := Lib.hid (LY8.out.on hb9)
  clear hb9 H12 E8 LL8 LM8 LX8 LV8 LY8
  go_upto_if 56 with fail
  go_cut [13, 14] from 56 to 56 (fun s13 s14 wc => w9 = wc ∧ ∃ Y cy, s13 = .slice Y v.length cy ∧ s14 = .int .i64 z3 ∧ Lab w9 Y cy v)
  case first =>
    by_cases hr : RightL l
    · have hqt : q = true := HQ.out.trans (decide_eq_true hr)
      subst hqt
      have hwo : WithOut l s n y0 z4 := .inr ⟨hr, by rw [← HP.out]; exact Q4.out⟩
      obtain ⟨rfl, rfl⟩ := Q3.out.uniq hwo
      clear hwo
      go_wp2_with fail
      go_meet
      case rel => exact ⟨rfl, Y0, cy0, rfl, rfl, LY9.out⟩
    · have hqf : q = false := HQ.out.trans (decide_eq_false hr)
      subst hqf
      have hwo : WithOut l s n [] 21 := .inl ⟨hr, rfl, rfl⟩
      obtain ⟨rfl, rfl⟩ := Q3.out.uniq hwo
      clear hwo
      go_wp2_with fail
      go_meet
      case rel => exact ⟨rfl, none, 0, rfl, rfl, lab_nil _⟩
  case rest =>
    obtain ⟨rfl, Y, cy, rfl, rfl, hly⟩ := hcut
    have LY := Lib.hid hly
    clear hly LY9
    obtain ⟨N, hN⟩ : ∃ N, N = w9.heap.size := ⟨_, rfl⟩
    obtain ⟨W5, hW5⟩ : ∃ W5, W5 = w9.alloc (.cells #[.slice none 0 0] 37) := ⟨_, rfl⟩
    have hb5 : Below N w9 W5 := by rw [hW5, hN]; exact (Below.refl _ _).alloc (Nat.le_refl _) _
    have hs5 : N ≤ W5.heap.size := by rw [hN]; exact hb5.size
    have hp5 : PenB W5 N N [] := by rw [hW5, hN]; exact pen_new w9
    have hA4 : Ents w9 N A l := by rw [hN]; exact LL9.out.ents
    have SL3 : Hid (∀ e ∈ l, e.1.length ≤ 3000) := fun e h => Nat.le_trans (SL.out e h) (by omega)
    have H13 := Lib.hid (put_any (c := c) hp5 hs5 (hA4.below hb5) h30 SL3.out)
    have HW5 := Lib.hid hW5
    have HN := Lib.hid hN
    have B10 := Lib.hid hb5
    clear hW5 hN hb5 hs5 hp5 hA4
    go_wp2_with fail
    rw [← HW5.out, ← HN.out]
    refine H13.out.mono ?_
    rintro e w11 ⟨rfl, hp11, hb11⟩
    have B11 : Below w9.heap.size w9 w11 := by rw [← HN.out]; exact B10.out.trans hb11
    have HP11 := Lib.hid hp11
    have LL11 := Lib.hid (LL9.out.on B11)
    have H13b := Lib.hid (putNil_any (c := c) LL11.out.ents (by omega))
    have B11h := Lib.hid B11
    clear hp11 hb11 H13 B11
    go_wp2_with fail
    refine H13b.out.mono ?_
    rintro e wb ⟨rfl, hbb⟩
    have BB : Below w9.heap.size w9 wb := B11h.out.trans (hbb.mono B11h.out.size)
    have Eb := Lib.hid (E9.out.on BB)
    have LLb := Lib.hid (LL9.out.on BB)
    have LMb := Lib.hid (LM9.out.on BB)
    have LXb := Lib.hid (LX9.out.on BB)
    have LVb := Lib.hid (LV9.out.on BB)
    have LYb := Lib.hid (LY.out.on BB)
    have HPb := Lib.hid (HP11.out.kept hbb)
    have BW : Hid (Below w.heap.size w wb) := B9.out.trans (BB.mono B9.out.size)
    have hm8 := Q1.out.short
    have hv8 := Q3.out.short
    clear hbb BB H13b B11h HP11 LL11 HW5 B10 E9 LL9 LM9 LX9 LV9 LY HN
    -- the contracts of the last statement's calls
    obtain ⟨lb, hlb⟩ : ∃ lb, lb = labBytes l := ⟨_, rfl⟩
    have hlbl : lb.length ≤ 900000 := by
      have h1 := Tp.enc_nine (n := l.length) (by omega)
      have h2 := flat_len l SL3.out
      rw [hlb]
      unfold labBytes
      rw [List.length_append]
      omega
    rw [← hlb] at HPb
    have HLB := Lib.hid hlb
    obtain ⟨T, hT⟩ : ∃ T, T = str (labText l) := ⟨_, rfl⟩
    obtain ⟨y, hy⟩ : ∃ y, y = lev l s := ⟨_, rfl⟩
    obtain ⟨r, hr⟩ : ∃ r, r = decide (l = m) := ⟨_, rfl⟩
    have H14 : Hid (∀ W, Below wb.heap.size wb W → Calls Tryz.prog 14 #[.slice A l.length c] W fun e w' => e = .returned (.bool q) ∧ Below wb.heap.size wb w') := fun W h => by
      rw [HQ.out]
      exact (labelRight_any (Eb.out.on h) (LLb.out.on h).ents (LLb.out.on h).txt (LLb.out.on h).len).mono fun e w' h2 => ⟨h2.1, h.trans (h2.2.mono h.size)⟩
    have H12 : Hid (∀ W, Below wb.heap.size wb W → Calls Tryz.prog 12 #[.slice A l.length c] W fun e w' => e = .returned (.bool q) ∧ Below wb.heap.size wb w') := fun W h => by
      rw [HQ.out]
      exact (refRight_any (LLb.out.on h).ents SL5.out (LLb.out.on h).len).mono fun e w' h2 => ⟨h2.1, h.trans (h2.2.mono h.size)⟩
    have H15 : Hid (∀ W, Below wb.heap.size wb W → Calls Tryz.prog 15 #[.slice A l.length c, .string (str s)] W fun e w' => e = .returned (.int .i64 y) ∧ Below wb.heap.size wb w') := fun W h => by
      rw [hy]
      exact (level_any (LLb.out.on h).ents (by omega)).mono fun e w' h2 => ⟨h2.1, h.trans (h2.2.mono h.size)⟩
    have H16 : Hid (∀ W, Below wb.heap.size wb W → Calls Tryz.prog 16 #[.slice A l.length c, .string (str s)] W fun e w' => e = .returned (.int .i64 y) ∧ Below wb.heap.size wb w') := fun W h => by
      rw [hy]
      exact (refLevel_any (LLb.out.on h).ents (by omega)).mono fun e w' h2 => ⟨h2.1, h.trans (h2.2.mono h.size)⟩
    have H17a : Hid (∀ W, Below wb.heap.size wb W → Calls Tryz.prog 17 #[.slice M m.length cm, .slice X m.length cx] W fun e w' => e = .returned (.bool true) ∧ Below wb.heap.size wb w') := fun W h => by
      have h1 := (refSame_any (c := cm) (c' := cx) (LMb.out.on h).ents (LXb.out.on h).ents (by omega)).mono fun e w' (h2 : RetB W _ e w') => (⟨h2.1, h.trans (h2.2.mono h.size)⟩ : e = .returned (.bool (decide (m = m))) ∧ Below wb.heap.size wb w')
      rwa [decide_eq_true rfl] at h1
    have H17b : Hid (∀ W, Below wb.heap.size wb W → Calls Tryz.prog 17 #[.slice V v.length cv, .slice Y v.length cy] W fun e w' => e = .returned (.bool true) ∧ Below wb.heap.size wb w') := fun W h => by
      have h1 := (refSame_any (c := cv) (c' := cy) (LVb.out.on h).ents (LYb.out.on h).ents (by omega)).mono fun e w' (h2 : RetB W _ e w') => (⟨h2.1, h.trans (h2.2.mono h.size)⟩ : e = .returned (.bool (decide (v = v))) ∧ Below wb.heap.size wb w')
      rwa [decide_eq_true rfl] at h1
    have H18 : Hid (∀ W, Below wb.heap.size wb W → Calls Tryz.prog 18 #[.slice A l.length c] W fun e w' => e = .returned (.string T) ∧ Below wb.heap.size wb w') := fun W h => by
      rw [hT]
      exact (labelText_any (Eb.out.on h) (LLb.out.on h) (by omega) HWD.out).mono fun e w' h2 => ⟨h2.1, h.trans (h2.2.mono h.size)⟩
    have H19 : Hid (∀ W, Below wb.heap.size wb W → Calls Tryz.prog 19 #[.slice A l.length c] W fun e w' => e = .returned (.string T) ∧ Below wb.heap.size wb w') := fun W h => by
      rw [hT]
      exact (refText_any (LLb.out.on h).ents h30 SL.out HWD.out).mono fun e w' h2 => ⟨h2.1, h.trans (h2.2.mono h.size)⟩
    have H20 : Hid (∀ W, Below wb.heap.size wb W → Calls Tryz.prog 20 #[.pointer (some ⟨N, 0, none⟩)] W fun e w' => ∃ A' c', e = .returned (.slice A' lb.length c') ∧ Tp.Bts w' w'.heap.size A' lb ∧ Below wb.heap.size wb w') := fun W h => by
      obtain ⟨k, hk, _, _⟩ := HPb.out.kept h
      exact (Tp.pen_bytes hk hlbl).mono fun e w' ⟨A', c', h1, h2, _, _, _, _, h3⟩ => ⟨A', c', h1, h2, h.trans (h3.mono h.size)⟩
    have H21 : Hid (∀ W, Below wb.heap.size wb W → Calls Tryz.prog 21 #[.slice A l.length c] W fun e w' => e = .returned (.string (Tp.str lb)) ∧ Below W.heap.size W w' ∧ Below wb.heap.size wb w') := fun W h => by
      rw [HLB.out]
      exact (refPut_any (LLb.out.on h).ents h30 SL3.out).mono fun e w' h2 => ⟨h2.1, h2.2, h.trans (h2.2.mono h.size)⟩
    have H22 : Hid (∀ W, Below wb.heap.size wb W → Calls Tryz.prog 22 #[.slice A l.length c, .slice M m.length cm] W fun e w' => e = .returned (.bool r) ∧ Below wb.heap.size wb w') := fun W h => by
      rw [hr]
      exact (same_any (LLb.out.on h) (LMb.out.on h) (by omega)).mono fun e w' h2 => ⟨h2.1, h.trans (h2.2.mono h.size)⟩
    have H17c : Hid (∀ W, Below wb.heap.size wb W → Calls Tryz.prog 17 #[.slice A l.length c, .slice X m.length cx] W fun e w' => e = .returned (.bool r) ∧ Below wb.heap.size wb w') := fun W h => by
      rw [hr]
      exact (refSame_any (c := c) (c' := cx) (LLb.out.on h).ents (LXb.out.on h).ents (by omega)).mono fun e w' h2 => ⟨h2.1, h.trans (h2.2.mono h.size)⟩
    clear hlb hT hy hr Eb LLb LMb LXb LVb LYb HPb SL SL5 SL3 HLB HWD Q1 Q3 Q4 HQ HP
    obtain ⟨S, hS⟩ : ∃ S, S = str s := ⟨_, rfl⟩
    rw [← hS] at H15 H16 ⊢
    obtain ⟨PS, hPS⟩ : ∃ PS, PS = Tp.str lb := ⟨_, rfl⟩
    rw [← hPS] at H21
    have HCV : Hid (∀ (W : World) (B : Nat) (A' : Option Addr) (c' : Nat), Tp.Bts W B A' lb → (convert 35 9 (.slice A' lb.length c')).run Tryz.prog W = .ok (.string PS) W) := fun W B A' c' h => by
      rw [hPS]
      exact Tp.conv_str h c'
    clear hS hPS hss
    obtain ⟨nb, hnb⟩ : ∃ nb, nb = lb.length := ⟨_, rfl⟩
    rw [← hnb] at H20 HCV
    clear hnb
    go_wp2_with fail
    go_region_held (fun _ => True)
      (first
        | exact trivial
        | go_keep)
      (first
        | (go_at_call 14; refine (H14.out _ (Below.refl _ _).drew).mono ?_; rintro e W1 ⟨rfl, hB1⟩)
        | (go_at_call 12; refine (H12.out _ hB1).mono ?_; rintro e W2 ⟨rfl, hB2⟩)
        | (go_at_call 15; refine (H15.out _ hB2).mono ?_; rintro e W3 ⟨rfl, hB3⟩)
        | (go_at_call 16; refine (H16.out _ hB3).mono ?_; rintro e W4 ⟨rfl, hB4⟩)
        | (go_at_call 17; refine (H17c.out _ hB11).mono ?_; rintro e W12 ⟨rfl, hB12⟩)
        | (go_at_call 17; refine (H17b.out _ hB5).mono ?_; rintro e W6 ⟨rfl, hB6⟩)
        | (go_at_call 17; refine (H17a.out _ hB4).mono ?_; rintro e W5 ⟨rfl, hB5⟩)
        | (go_at_call 18; refine (H18.out _ hB6).mono ?_; rintro e W7 ⟨rfl, hB7⟩)
        | (go_at_call 19; refine (H19.out _ hB7).mono ?_; rintro e W8 ⟨rfl, hB8⟩)
        | (go_at_call 20; refine (H20.out _ hB8).mono ?_; rintro e W9 ⟨A9, c9, rfl, hbt, hB9⟩; have cv9 := HCV.out _ _ _ c9 hbt)
        | (go_at_call 21; refine (H21.out _ hB9).mono ?_; rintro e W10 ⟨rfl, hloc, hB10⟩; have cv10 := HCV.out _ _ _ c9 (hbt.below hloc))
        | (go_at_call 22; refine (H22.out _ hB10).mono ?_; rintro e W11 ⟨rfl, hB11⟩))
    all_goals (
      have BF : Hid (Below w.heap.size w W12) := BW.out.trans (hB12.mono BW.out.size)
      clear hB1 hB2 hB3 hB4 hB5 hB6 hB7 hB8 hB9 hB10 hB11 hB12 hbt hloc cv9 cv10 H14 H12 H15 H16 H17a H17b H17c H18 H19 H20 H21 H22 HCV
      go_wp2_with fail
      go_ret
      exact ⟨rfl, BF.out⟩)
end Go.Proofs.YtpokdihnimlgkaaGreatDoor
