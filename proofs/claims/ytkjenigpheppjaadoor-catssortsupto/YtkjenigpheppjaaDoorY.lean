/- CatsOrders walked: it answers true. -/
import Derived.Test.YtkjenigpheppjaaDoorW
namespace Go.Proofs.YtkjenigpheppjaaDoor
open Go.RowKit

theorem nodup_len : ∀ {R l : List (List UInt8)}, R.Nodup → (∀ x ∈ R, x ∈ l) → R.length ≤ l.length
  | [], _, _, _ => by simp
  | x :: r, l, hn, h => by
    obtain ⟨h1, h2⟩ := List.nodup_cons.1 hn
    have hx : x ∈ l := h x (by simp)
    have := nodup_len (R := r) (l := l.erase x) h2 fun y hy => (List.mem_erase_of_ne fun e => h1 (by rw [← e]; exact hy)).2 (h y (List.mem_cons_of_mem _ hy))
    rw [List.length_erase_of_mem hx] at this
    have hp : 0 < l.length := List.length_pos_of_mem hx
    simp
    omega
theorem rises_len {R l : List (List UInt8)} (hR : Rises cmpC R) (h : ∀ y ∈ R, y ∈ l) : R.length ≤ l.length :=
  nodup_len (hR.imp fun {x y} hxy e => by subst e; rw [tot_cmpC.refl] at hxy; omega) h

def OrdRel (w : World) (l : List (List UInt8)) (k : Nat) (i : Value) (wr : World) : Prop :=
  ∃ m, m + k = l.length ∧ i = .int .i64 (m : Int) ∧ (∀ x ∈ l.take m, x.length ≤ 100) ∧ Below w.heap.size w wr
def SameRel (w W : World) (R : List (List UInt8)) (k : Nat) (i : Value) (wr : World) : Prop :=
  ∃ m, m + k = R.length ∧ i = .int .i64 (m : Int) ∧ Below w.heap.size w wr ∧ Below W.heap.size W wr

set_option maxRecDepth 100000 in
set_option maxHeartbeats 4000000 in
theorem orders_any (hf : ∀ W, Env W → Calls Tryd.prog 7 #[] W (Fine W)) (hs : ∀ (W : World) (A : Option Addr) (c : Nat) (l : List (List UInt8)), Env W → Strs W W.heap.size A l → (∀ x ∈ l, x.length ≤ 100000) → l.length ≤ 1000000 → Calls Tryd.prog 16 #[.slice A l.length c] W (RetRef W l))
    {w : World} {A : Option Addr} {c : Nat} {l : List (List UInt8)} (he : Env w) (hl : Strs w w.heap.size A l) (hn : l.length ≤ maxLen) (hx : ∀ x ∈ l, x.length ≤ maxLen) :
    Calls Tryd.prog 4 #[.slice A l.length c] w (Fine w) := by
  have HE := Lib.hid he
  have HL := Lib.hid hl
  have HF := Lib.hid hf
  have HSo := Lib.hid hs
  have HX := Lib.hid hx
  unfold maxLen at hn
  clear he hl hf hs hx
  go_enter Tryd.func4, Tryd.ntmps4
  go_wp2_with fail
  refine (HF.out w HE.out).mono ?_
  rintro e w1 ⟨rfl, hb1⟩
  have B1 := Lib.hid hb1
  clear hb1
  by_cases h1 : 40 < l.length
  · go_wp2_with fail
    go_ret
    exact ⟨rfl, B1.out⟩
  go_wp2_with fail
  go_loopg [15] l.length (fun k i wr => OrdRel w l k i wr)
  case atStart => exact ⟨0, by simp, rfl, by simp, B1.out⟩
  case round =>
    obtain ⟨m, hmk, hi, hall, hb⟩ := hrel
    subst hi
    have HB := Lib.hid hb
    have HA := Lib.hid hall
    cases gk with
    | zero =>
      have hge : l.length ≤ m := by omega
      have HA2 : Hid (∀ x ∈ l, x.length ≤ 100000) := fun x hx => by
        have := hall x (by rwa [List.take_of_length_le hge])
        omega
      have HS := Lib.hid ((HL.out.below hb).more hb.size)
      have H16 := Lib.hid (HSo.out wr A c l (HE.out.on hb) HS.out HA2.out (by omega))
      clear hall hb hmk
      go_wp2_with fail
      refine H16.out.mono ?_
      rintro e w2 ⟨hb2, A1, c1, R1, rfl, hs1, hr1, hm1⟩
      have B2 := Lib.hid (HB.out.trans (hb2.mono HB.out.size))
      have S1 := Lib.hid hs1
      have H17 := Lib.hid (refSort_any (c := c) ((HS.out.below hb2).more hb2.size) HA2.out (by omega))
      have X1 := Lib.hid hr1
      have X2 := Lib.hid hm1
      clear hb2 hs1 hr1 hm1 H16
      go_wp2_with fail
      refine H17.out.mono ?_
      rintro e w3 ⟨hb3, A2, c2, R2, rfl, hs2, hr2, hm2⟩
      have hR := rises_unique tot_cmpC hr2 X1.out (fun x => (hm2 x).trans (X2.out x).symm)
      subst hR
      have hlen := rises_len hr2 (fun y hy => ((hm2 y).1 hy).1)
      have B3 := Lib.hid (B2.out.trans (hb3.mono B2.out.size))
      have T1 := Lib.hid ((S1.out.below hb3).more hb3.size)
      have T2 := Lib.hid hs2
      clear hb3 hs2 hr2 hm2 H17
      go_wp2_with fail
      go_loopg [50] R2.length (fun k i wr => SameRel w w3 R2 k i wr)
      case atStart => exact ⟨0, by simp, rfl, B3.out, Below.refl _ _⟩
      case round =>
        obtain ⟨m, hmk, hi, hb, hb'⟩ := hrel
        subst hi
        have BB := Lib.hid hb
        have BB' := Lib.hid hb'
        clear hb
        cases gk with
        | zero =>
          have hge : R2.length ≤ m := by omega
          clear hmk hb'
          go_wp2_with fail
          go_ret
          exact ⟨rfl, BB.out⟩
        | succ j =>
          have hm : m < R2.length := by omega
          obtain ⟨x, hx⟩ : ∃ x, R2[m]? = some x := ⟨_, List.getElem?_eq_getElem hm⟩
          obtain ⟨b1, o1, rfl, hlt1, hc1⟩ := T1.out (by omega)
          obtain ⟨b2, o2, rfl, hlt2, hc2⟩ := T2.out (by omega)
          obtain ⟨S, hS⟩ : ∃ S, S = str x := ⟨_, rfl⟩
          have x1 := (hb'.cell (p := ⟨b1, o1 + m, none⟩) hlt1).trans (hc1 m x hx)
          have x2 := (hb'.cell (p := ⟨b2, o2 + m, none⟩) hlt2).trans (hc2 m x hx)
          rw [← hS] at x1 x2
          have HM := Lib.hid hmk
          clear hmk hx hc1 hc2 hb' hS
          go_wp2_with fail
          go_quiet (fail)
          go_wp2_with fail
          go_roundg j
          case measure => omega
          case rel => exact ⟨m + 1, by have := HM.out; omega, by go_num, below_drewN BB.out _, below_drewN BB'.out _⟩
    | succ j =>
      have hm : m < l.length := by omega
      obtain ⟨x, hx⟩ : ∃ x, l[m]? = some x := ⟨_, List.getElem?_eq_getElem hm⟩
      obtain ⟨y, hy⟩ : ∃ y, l[0]? = some y := ⟨_, List.getElem?_eq_getElem (by omega)⟩
      obtain ⟨b, o, rfl, hlt, hcells⟩ := HL.out (by omega)
      obtain ⟨S, hS⟩ : ∃ S, S = str x := ⟨_, rfl⟩
      have cx := (hb.cell (p := ⟨b, o + m, none⟩) hlt).trans (hcells m x hx)
      rw [← hS] at cx
      have hsz : S.size = x.length := by rw [hS, str_size]
      have hxl := HX.out x (List.mem_of_getElem? hx)
      unfold maxLen at hxl
      by_cases h2 : 100 < x.length
      · clear hx hy hcells hmk hb hall hS
        go_wp2_with fail
        go_ret
        exact ⟨rfl, HB.out⟩
      · have hyl : y.length ≤ 100 := by
          cases m with
          | zero => rw [hx] at hy; cases hy; omega
          | succ m => exact hall y (List.mem_of_getElem? (i := 0) (by rw [List.getElem?_take_of_lt (by omega)]; exact hy))
        have HA2 : Hid (∀ z ∈ l.take (m + 1), z.length ≤ 100) := fun z hz => by
          rcases (mem_take_snoc hx z).1 hz with h | h
          · exact hall z h
          · rw [h]; omega
        obtain ⟨T, hT⟩ : ∃ T, T = str y := ⟨_, rfl⟩
        have c0 : wr.cell? ⟨b, o, none⟩ = some (.string T) := by rw [hT]; exact (hb.cell (p := ⟨b, o + 0, none⟩) hlt).trans (hcells 0 y hy)
        obtain ⟨z, hz⟩ : ∃ z, z = cmpC x y := ⟨_, rfl⟩
        have EW := Lib.hid (HE.out.on hb)
        have H14 : Hid (∀ W, Below wr.heap.size wr W → Calls Tryd.prog 14 #[.string S, .string T] W fun e w' => e = .returned (.int .i64 z) ∧ Below wr.heap.size wr w') := fun W h => by
          rw [hS, hT, hz]
          exact (compare_any (EW.out.on h) (by omega) (by omega)).mono fun e w' h2 => ⟨h2.1, h.trans (h2.2.mono h.size)⟩
        have H15 : Hid (∀ W, Below wr.heap.size wr W → Calls Tryd.prog 15 #[.string S, .string T] W fun e w' => e = .returned (.int .i64 z) ∧ Below wr.heap.size wr w') := fun W h => by
          rw [hS, hT, hz]
          exact (refCompare_any (by omega) (by omega)).mono fun e w' h2 => ⟨h2.1, h.trans (h2.2.mono h.size)⟩
        have hg := World.block_lt_of_cell? wr _ c0
        have hpos : decide (0 < l.length) = true := by simp; omega
        have hpos2 : (0 : Int) < (l.length : Int) := by omega
        have hpos3 : 0 < l.length := by omega
        have HM := Lib.hid hmk
        clear hx hy hcells hmk hb hall hS hT hz
        go_wp2_with fail
        go_region_held3 (fun W => W.cell? ⟨b, o, none⟩ = some (.string T))
          (first
            | go_keep
            | exact (hbB.cell (p := ⟨b, o, none⟩) hg).trans c0
            | exact (hbA.cell (p := ⟨b, o, none⟩) hg).trans c0)
          (first
            | (go_at_call 15; refine (H15.out _ hbA).mono ?_; rintro e W2 ⟨rfl, hbB⟩)
            | (go_at_call 14; refine (H14.out _ (Below.refl _ _).drew).mono ?_; rintro e W1 ⟨rfl, hbA⟩))
        have B2 := Lib.hid (HB.out.trans (hbB.mono HB.out.size))
        clear hbA hbB c0 cx
        go_wp2_with fail
        go_roundg j
        case measure => omega
        case rel => exact ⟨m + 1, by have := HM.out; omega, by go_num, HA2.out, B2.out⟩
end Go.Proofs.YtkjenigpheppjaaDoor
