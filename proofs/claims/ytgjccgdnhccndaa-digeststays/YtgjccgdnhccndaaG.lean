/- digest.Parts and the reference's Parts. -/
import Derived.Test.YtgjccgdnhccndaaF
namespace Go.Proofs.Ytgjccgdnhccndaa
open Go.RowKit

/-- A slice of slices of bytes, as it lies below block B. -/
def Parts (w : World) (B : Nat) (A : Option Addr) (ps : List (List Nat)) : Prop :=
  0 < ps.length → ∃ b o, A = some ⟨b, o, none⟩ ∧ b < B ∧ ∀ (k : Nat) (l : List Nat), ps[k]? = some l → ∃ A1 c1, w.cell? ⟨b, o + k, none⟩ = some (.slice A1 l.length c1) ∧ Bts w B A1 l ∧ (A1 = none → c1 = 0) ∧ l.length ≤ maxLen

theorem Parts.below {w w' : World} {B : Nat} {A : Option Addr} {ps : List (List Nat)} (h : Parts w B A ps) (hb : Below B w w') : Parts w' B A ps := fun hp => by
  obtain ⟨b, o, hA, hlt, hc⟩ := h hp
  refine ⟨b, o, hA, hlt, fun k l hk => ?_⟩
  obtain ⟨A1, c1, h1, h2, h3⟩ := hc k l hk
  exact ⟨A1, c1, (hb.cell (p := ⟨b, o + k, none⟩) hlt).trans h1, h2.below hb, h3⟩
theorem Parts.more {w : World} {B B' : Nat} {A : Option Addr} {ps : List (List Nat)} (h : Parts w B A ps) (hB : B ≤ B') : Parts w B' A ps := fun hp => by
  obtain ⟨b, o, hA, hlt, hc⟩ := h hp
  refine ⟨b, o, hA, by omega, fun k l hk => ?_⟩
  obtain ⟨A1, c1, h1, h2, h3⟩ := hc k l hk
  exact ⟨A1, c1, h1, h2.more hB, h3⟩

def PartsRel (w : World) (g : Nat) (ps : List (List Nat)) (k : Nat) (i : Value) (wr : World) : Prop :=
  ∃ m, m + k = ps.length ∧ i = .int .i64 (m : Int) ∧ SumOf wr g (cat ps m) ∧ Below w.heap.size w wr

set_option maxRecDepth 100000 in
theorem parts_any {w : World} {A : Option Addr} {c : Nat} {ps : List (List Nat)} (hp : Parts w w.heap.size A ps) (hs : ∀ l ∈ ps, Sml l) (hn : ps.length ≤ 20) (hl : ∀ l ∈ ps, l.length ≤ 10000) :
    Calls Try.prog 10 #[.slice A ps.length c] w (RetB w (.int .i64 ((dig (cat ps ps.length) : Nat) : Int))) := by
  have HP := Lib.hid hp
  have HS := Lib.hid hs
  have HL := Lib.hid hl
  clear hp hs hl
  go_enter Try.func10, Try.ntmps10
  go_wp2_with fail
  refine (start_any w).mono ?_
  rintro e w1 ⟨rfl, hb1⟩
  have HB1 := Lib.hid hb1
  have HU := Lib.hid (sum_new w1)
  have hg := hb1.size
  clear hb1
  go_wp2_with fail
  obtain ⟨g, hge⟩ : ∃ g, g = w1.heap.size := ⟨_, rfl⟩
  rw [← hge] at HU hg ⊢
  clear hge
  go_loopg [9] ps.length (fun k i wr => PartsRel w g ps k i wr)
  case atStart => exact ⟨0, by simp, rfl, by rw [cat_zero]; exact HU.out, HB1.out.alloc HB1.out.size _⟩
  case round =>
    obtain ⟨m, hmk, hi, hsum, hb⟩ := hrel
    subst hi
    have HB := Lib.hid hb
    have hcl := cat_length ps m
    cases gk with
    | zero =>
      have hge : ps.length ≤ m := by omega
      have hm : Hid (m = ps.length) := by unfold Hid; omega
      have H14 := Lib.hid (sum_digest hsum (by omega) hg)
      clear hb hsum
      go_wp2_with fail
      refine H14.out.mono ?_
      rintro e w2 ⟨rfl, hb2⟩
      have HB2 := Lib.hid (HB.out.trans hb2)
      clear hb2 H14
      go_wp2_with fail
      go_ret
      exact ⟨ret_int (by rw [hm.out]), HB2.out⟩
    | succ j =>
      have hm : m < ps.length := by omega
      obtain ⟨l, hl⟩ : ∃ l, ps[m]? = some l := ⟨_, List.getElem?_eq_getElem hm⟩
      obtain ⟨b, o, rfl, hlt, hcells⟩ := HP.out (by omega)
      obtain ⟨A1, c1, h1, hbt, _, _⟩ := hcells m l hl
      have cx := (hb.cell (p := ⟨b, o + m, none⟩) hlt).trans h1
      have hmem := List.mem_of_getElem? hl
      have H6 := Lib.hid (of_any (c := c1) ((hbt.below hb).more hb.size) (HS.out l hmem) (by have := HL.out l hmem; omega))
      have HN := Lib.hid (cat_snoc hl)
      have hd := dig_lt l
      obtain ⟨d, hde⟩ : ∃ d, d = dig l := ⟨_, rfl⟩
      rw [← hde] at H6 HN hd
      have HM := Lib.hid hmk
      have HU1 := Lib.hid hsum
      clear hmk hl hcells hb hsum h1 hbt hmem hde
      go_wp2_with fail
      refine H6.out.mono ?_
      rintro e w2 ⟨rfl, hb2⟩
      have HB2 := Lib.hid (HB.out.trans (hb2.mono HB.out.size))
      have HU2 := Lib.hid (HU1.out.below hb2 HU1.out.lt)
      clear hb2 H6 cx HU1
      have H16 := Lib.hid (add_number (n := d) (B := w.heap.size) HU2.out (by omega) (by omega) hg)
      go_wp2_with fail
      refine H16.out.mono ?_
      rintro e w3 ⟨rfl, h3, hb3⟩
      have HB3 := Lib.hid (HB2.out.trans hb3)
      have HU3 := Lib.hid h3
      clear h3 hb3 H16 HU2
      go_wp2_with fail
      go_roundg j
      case measure => omega
      case rel => exact ⟨m + 1, by have := HM.out; omega, by go_num, by rw [HN.out]; exact HU3.out, HB3.out⟩

def RefPartsRel (w : World) (ps : List (List Nat)) (k : Nat) (v i : Value) (wr : World) : Prop :=
  ∃ m, m + k = ps.length ∧ i = .int .i64 (m : Int) ∧ Row wr w.heap.size v (cat ps m) ∧ Below w.heap.size w wr

set_option maxRecDepth 100000 in
theorem ref_parts {w : World} {A : Option Addr} {c : Nat} {ps : List (List Nat)} (hp : Parts w w.heap.size A ps) (hs : ∀ l ∈ ps, Sml l) (hn : ps.length ≤ 20) (hl : ∀ l ∈ ps, l.length ≤ 10000) :
    Calls Try.prog 11 #[.slice A ps.length c] w (RetB w (.int .i64 ((dig (cat ps ps.length) : Nat) : Int))) := by
  have HP := Lib.hid hp
  have HS := Lib.hid hs
  have HL := Lib.hid hl
  clear hp hs hl
  go_enter Try.func11, Try.ntmps11
  go_wp2_with fail
  go_loopg [3, 8] ps.length (fun k v i wr => RefPartsRel w ps k v i wr)
  case atStart => exact ⟨0, by simp, rfl, by rw [cat_zero]; exact World.ownsRow_nil _ _ _ _, Below.refl _ _⟩
  case round =>
    obtain ⟨m, hmk, hi, hrow, hb⟩ := hrel
    subst hi
    have HB := Lib.hid hb
    have hcl := cat_length ps m
    cases gk with
    | zero =>
      have hge : ps.length ≤ m := by omega
      have hm : Hid (m = ps.length) := by unfold Hid; omega
      obtain ⟨A1, c1, rfl, hbt, hc1⟩ := hrow.bts
      have H7 := Lib.hid (ref_of (c := c1) hbt (cat_sml ps m) hc1 (by omega))
      clear hb hrow hbt hc1
      go_wp2_with fail
      refine H7.out.mono ?_
      rintro e w2 ⟨rfl, hb2⟩
      have HB2 := Lib.hid (HB.out.trans (hb2.mono HB.out.size))
      clear hb2 H7
      go_wp2_with fail
      go_ret
      exact ⟨ret_int (by rw [hm.out]), HB2.out⟩
    | succ j =>
      have hm : m < ps.length := by omega
      obtain ⟨l, hl⟩ : ∃ l, ps[m]? = some l := ⟨_, List.getElem?_eq_getElem hm⟩
      obtain ⟨b, o, rfl, hlt, hcells⟩ := HP.out (by omega)
      obtain ⟨A1, c1, h1, hbt, hc1, _⟩ := hcells m l hl
      have cx := (hb.cell (p := ⟨b, o + m, none⟩) hlt).trans h1
      have hmem := List.mem_of_getElem? hl
      have H7 := Lib.hid (ref_of (c := c1) ((hbt.below hb).more hb.size) (HS.out l hmem) hc1 (by have := HL.out l hmem; omega))
      have HN := Lib.hid (cat_snoc hl)
      have hd := dig_lt l
      obtain ⟨d, hde⟩ : ∃ d, d = dig l := ⟨_, rfl⟩
      rw [← hde] at H7 HN hd
      have HUn : Hid (u64 (d : Int) = d) := u64_nat (by omega)
      have HM := Lib.hid hmk
      have HR1 := Lib.hid hrow
      have H8 := Lib.hid (le8_length d)
      clear hmk hl hcells hb hrow h1 hbt hmem hde hc1
      go_wp2_with fail
      refine H7.out.mono ?_
      rintro e w2 ⟨rfl, hb2⟩
      have HB2 := Lib.hid (HB.out.trans (hb2.mono HB.out.size))
      have HR2 := Lib.hid (HR1.out.below hb2)
      clear hb2 H7 cx HR1
      go_wp2_with fail
      refine (eight_any w2 (d : Int)).mono ?_
      rintro e w3 ⟨v3, rfl, h3, hb3⟩
      rw [HUn.out] at h3
      obtain ⟨A3, c3, rfl, hbt3, hc3⟩ := h3.bts
      have HB3 := Lib.hid (HB2.out.trans (hb3.mono HB2.out.size))
      have HR3 := Lib.hid (HR2.out.below hb3)
      have HT3 := Lib.hid hbt3
      have HC3 := Lib.hid hc3
      have hle : (cat ps m).length + (le8 d).length ≤ 1000000 := by rw [H8.out]; omega
      have hle2 := HB3.out.size
      clear h3 hb3 hbt3 hc3 HR2
      go_wp2_with (first
        | (at_builtin; refine wpList_append_bts rfl _ _ rfl w.heap.size _ _ rfl HR3.out w3.heap.size A3 _ c3 (le8 d) rfl rfl HT3.out HC3.out hle hle2 ?_))
      intro v4 w4 h4 hb4
      have HB4 := Lib.hid (HB3.out.trans hb4)
      have HR4 := Lib.hid h4
      clear h4 hb4 HR3 HT3 HC3 hle hle2
      go_wp2_with fail
      go_roundg j
      case measure => omega
      case rel => exact ⟨m + 1, by have := HM.out; omega, by go_num, by rw [HN.out]; exact HR4.out, HB4.out⟩
end Go.Proofs.Ytgjccgdnhccndaa
