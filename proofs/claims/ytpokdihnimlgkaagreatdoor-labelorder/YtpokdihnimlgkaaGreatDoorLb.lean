/- label.Right. -/
import Derived.Test.YtpokdihnimlgkaaGreatDoorLa
import Derived.Test.YtpokdihnimlgkaaGreatDoorV
namespace Go.Proofs.YtpokdihnimlgkaaGreatDoor
open Go.RowKit

/-- Nothing is wrong with entries: each by itself, and their order. -/
def Good (l : List Ent) : Prop := (∀ e ∈ l, entErr e = 0 ∧ e.2 ≠ 1) ∧ Rises cmpC (keys l)
theorem good_zero (l : List Ent) : Good (l.take 0) := ⟨by simp, by simp [keys, Rises]⟩
theorem good_first {l : List Ent} {e : Ent} (h : l[0]? = some e) (h1 : entErr e = 0) (h2 : e.2 ≠ 1) : Good (l.take 1) := by
  cases l with
  | nil => simp at h
  | cons x r =>
    simp at h
    subst h
    exact ⟨by simp; exact ⟨h1, h2⟩, by simp [keys, Rises]⟩
theorem good_next {l : List Ent} {m : Nat} {p e : Ent} (h : Good (l.take (m + 1))) (hp : l[m]? = some p) (he : l[m + 1]? = some e) (h1 : entErr e = 0) (h2 : e.2 ≠ 1) (hc : cmpC p.1 e.1 = -1) : Good (l.take (m + 1 + 1)) := by
  refine ⟨take_no (P := fun e => entErr e = 0 ∧ e.2 ≠ 1) he h.1 ⟨h1, h2⟩, ?_⟩
  have hr := h.2
  rw [List.take_add_one, hp] at hr
  rw [List.take_add_one, he, List.take_add_one, hp]
  simp only [keys, Option.toList_some, List.map_append, List.map_cons, List.map_nil] at hr ⊢
  have h3 := List.pairwise_append.1 hr
  refine List.pairwise_append.2 ⟨hr, List.pairwise_singleton _ _, fun x hx y hy => ?_⟩
  simp at hy
  subst hy
  rcases List.mem_append.1 hx with h4 | h4
  · exact tot_cmpC.lt_trans (h3.2.2 x h4 _ (by simp)) hc
  · simp at h4
    subst h4
    exact hc
theorem bad_entry {l : List Ent} {m : Nat} {e : Ent} (h : l[m]? = some e) (hb : ¬ (entErr e = 0 ∧ e.2 ≠ 1)) : ¬ RightL l := fun hr => hb (hr.2.1 e (List.mem_of_getElem? h))
theorem bad_next {l : List Ent} {m : Nat} {p e : Ent} (hp : l[m]? = some p) (he : l[m + 1]? = some e) (hc : ¬ cmpC p.1 e.1 = -1) : ¬ RightL l := fun hr => by
  have h1 := List.pairwise_iff_getElem.1 hr.2.2 m (m + 1) (by
    have := (List.getElem?_eq_some_iff.1 hp).1
    simpa [keys] using this) (by
    have := (List.getElem?_eq_some_iff.1 he).1
    simpa [keys] using this) (by omega)
  have e1 := (List.getElem?_eq_some_iff.1 hp).2
  have e2 := (List.getElem?_eq_some_iff.1 he).2
  simp only [keys, List.getElem_map, e1, e2] at h1
  exact hc h1

def RightRel (w : World) (l : List Ent) (k : Nat) (i : Value) (wr : World) : Prop :=
  ∃ m, m + k = l.length ∧ i = .int .i64 (m : Int) ∧ Good (l.take m) ∧ Below w.heap.size w wr

set_option maxRecDepth 100000 in
theorem labelRight_any {w : World} {A : Option Addr} {c : Nat} {l : List Ent} (he : Env w) (hl : Ents w w.heap.size A l) (hx : ∀ e ∈ l, e.1.length ≤ 140737488351232) (hn : l.length ≤ maxLen) :
    Calls Tryz.prog 14 #[.slice A l.length c] w (RetB w (.bool (decide (RightL l)))) := by
  have HE := Lib.hid he
  have HL := Lib.hid hl
  have HX := Lib.hid hx
  clear hl hx he
  unfold maxLen at hn
  by_cases h8 : 8 < l.length
  · have HD : Hid (decide (RightL l) = false) := decide_eq_false fun h => by have := h.1; omega
    go_enter Tryz.func14, Tryz.ntmps14
    go_wp2_with fail
    go_ret
    exact ⟨by rw [HD.out]; rfl, Below.refl _ _⟩
  have h8' : l.length ≤ 8 := by omega
  clear h8
  go_enter Tryz.func14, Tryz.ntmps14
  go_wp2_with fail
  go_loopg [10] l.length (fun k i wr => RightRel w l k i wr)
  case atStart => exact ⟨0, by simp, rfl, good_zero l, Below.refl _ _⟩
  case round =>
    obtain ⟨m, hmk, hi, hgd, hb⟩ := hrel
    subst hi
    have HB := Lib.hid hb
    have HG := Lib.hid hgd
    have hsz := hb.size
    cases gk with
    | zero =>
      have hge : l.length ≤ m := by omega
      have HD : Hid (decide (RightL l) = true) := decide_eq_true ⟨h8', by have := HG.out; rwa [List.take_of_length_le hge] at this⟩
      clear hgd hb
      go_wp2_with fail
      go_ret
      exact ⟨by rw [HD.out]; rfl, HB.out⟩
    | succ j =>
      have hm : m < l.length := by omega
      obtain ⟨⟨t, n⟩, hx⟩ : ∃ x, l[m]? = some x := ⟨_, List.getElem?_eq_getElem hm⟩
      obtain ⟨b, o, rfl, hlt, hcells⟩ := (HL.out.below hb) (by omega)
      obtain ⟨c1, c2⟩ := hcells m t n hx
      have hlt2 : b < wr.heap.size := by omega
      have HM := Lib.hid hmk
      have HXM := Lib.hid hx
      have htl : t.length ≤ 140737488351232 := HX.out _ (List.mem_of_getElem? hx)
      have EW := HE.out.on hb
      obtain ⟨W0, hW0⟩ : ∃ W0, W0 = wr.alloc (.cells #[.string (str t), .int .i64 n] 33) := ⟨_, rfl⟩
      have hB0 : Below wr.heap.size wr W0 := by rw [hW0]; exact (Below.refl _ _).alloc (Nat.le_refl _) _
      have H30 := Lib.hid (entryError_any (n := n) (EW.on hB0) htl)
      have HB0 := Lib.hid hB0
      have k0 : W0.cell? ⟨wr.heap.size, 0, none⟩ = some (.string (str t)) := by rw [hW0]; simp
      have k1 : W0.cell? ⟨wr.heap.size, 1, none⟩ = some (.int .i64 n) := by rw [hW0]; simp
      have K0 := Lib.hid k0
      have K1 := Lib.hid k1
      have hs0 : W0.heap.size = wr.heap.size + 1 := by rw [hW0]; simp
      have HS := Lib.hid hs0
      have HEW := Lib.hid EW
      have HW0 := Lib.hid hW0
      have hprev : Hid (∀ k, m = k + 1 → ∃ p q, l[k]? = some (p, q) ∧ wr.cell? ⟨b, o + k * 2, none⟩ = some (.string (str p)) ∧ p.length ≤ 140737488351232) := fun k hk => by
        obtain ⟨⟨p, q⟩, hp⟩ : ∃ x, l[k]? = some x := ⟨_, List.getElem?_eq_getElem (by omega)⟩
        exact ⟨p, q, hp, (hcells k p q hp).1, HX.out _ (List.mem_of_getElem? hp)⟩
      clear hcells hx hmk hgd hB0 k0 k1 EW hW0 hs0
      go_wp2_with fail
      rw [← HW0.out]
      refine H30.out.mono ?_
      rintro e w1 ⟨rfl, hb1⟩
      have hS := HS.out
      have B1 := Lib.hid (HB0.out.trans (hb1.mono HB0.out.size))
      have c3 : w1.cell? ⟨wr.heap.size, 0, none⟩ = some (.string (str t)) := (hb1.cell (p := ⟨wr.heap.size, 0, none⟩) (show wr.heap.size < _ by omega)).trans K0.out
      have c4 : w1.cell? ⟨wr.heap.size, 1, none⟩ = some (.int .i64 n) := (hb1.cell (p := ⟨wr.heap.size, 1, none⟩) (show wr.heap.size < _ by omega)).trans K1.out
      clear hb1
      obtain ⟨z, hz⟩ : ∃ z, z = entErr (t, n) := ⟨_, rfl⟩
      rw [← hz]
      by_cases hz0 : z = 0
      · have HZ : Hid (entErr (t, n) = 0) := hz.symm.trans hz0
        subst hz0
        by_cases h1 : n = 1
        · have HD : Hid (decide (RightL l) = false) := decide_eq_false (bad_entry HXM.out fun h => h.2 h1)
          subst h1
          clear hz c1 c2
          go_wp2_with fail
          go_ret
          exact ⟨by rw [HD.out]; rfl, HB.out.trans (B1.out.mono hsz)⟩
        · have hn1 : ((n : Int) == (1 : Int)) = false := by simpa using h1
          have HN1 := Lib.hid h1
          by_cases hm0 : m = 0
          · subst hm0
            have HG2 := Lib.hid (good_first HXM.out HZ.out HN1.out)
            clear hz c1 c2 hprev h1
            go_wp2_with fail
            go_quiet (fail)
            go_wp2_with fail
            go_roundg j
            case measure => omega
            case rel => exact ⟨1, by have := HM.out; omega, by go_num, HG2.out, below_drewN (HB.out.trans (B1.out.mono hsz)) _⟩
          · obtain ⟨k, hk⟩ : ∃ k, m = k + 1 := ⟨m - 1, by omega⟩
            obtain ⟨p, q, hp, cp, hpl⟩ := hprev.out k hk
            have cp1 : w1.cell? ⟨b, o + k * 2, none⟩ = some (.string (str p)) := (B1.out.cell (p := ⟨b, o + k * 2, none⟩) (show b < _ by omega)).trans cp
            have E1 := HEW.out.on B1.out
            have H40 : Hid (∀ W, Below w1.heap.size w1 W → Calls Tryz.prog 40 #[.string (str p), .string (str t)] W fun e w' => e = .returned (.int .i64 (cmpC p t)) ∧ Below w1.heap.size w1 w') := fun W h =>
              (compare_any (E1.on h) hpl htl).mono fun e w' h2 => ⟨h2.1, h.trans (h2.2.mono h.size)⟩
            have hbw1 : b < w1.heap.size := by have := B1.out.size; omega
            have hgw1 : wr.heap.size < w1.heap.size := World.block_lt_of_cell? w1 _ c3
            have HPM := Lib.hid hp
            have HK := Lib.hid hk
            obtain ⟨y, hy⟩ : ∃ y, y = cmpC p t := ⟨_, rfl⟩
            rw [← hy] at H40
            have HY := Lib.hid hy
            have hk1 : IntKind.i64.wrap ((m : Int) - 1) = (k : Int) := by rw [IntKind.wrap_i64]; omega
            have hk2 : ¬ ((k : Int) < 0) := by omega
            have hk3 : (k : Int) < (l.length : Int) := by omega
            have hk4 : k < l.length := by omega
            have hm1 : (m : Int) > 0 := by omega
            have hm2 : 0 < m := by omega
            clear hz c1 c2 hprev h1 hy E1 hp cp hk hm0
            go_wp2_with fail
            go_region_held3 (fun W => W.cell? ⟨b, o + k * 2, none⟩ = some (.string (str p)) ∧ W.cell? ⟨wr.heap.size, 0, none⟩ = some (.string (str t)))
              (first
                | go_keep
                | exact ⟨(hbA.cell (p := ⟨b, o + k * 2, none⟩) hbw1).trans cp1, (hbA.cell (p := ⟨wr.heap.size, 0, none⟩) hgw1).trans c3⟩)
              (first
                | (go_at_call 40; refine (H40.out _ (Below.refl _ _).drew).mono ?_; rintro e W1 ⟨rfl, hbA⟩))
            have B2 := Lib.hid (HB.out.trans ((B1.out.trans (hbA.mono (by have := B1.out.size; omega))).mono hsz))
            clear hbA cp1 c3 c4
            by_cases hy1 : y = -1
            · have HG2 : Hid (Good (l.take (m + 1))) := by
                have hg := HG.out
                have hx := HXM.out
                rw [HK.out] at hg hx ⊢
                exact good_next hg HPM.out hx HZ.out HN1.out (HY.out.symm.trans hy1)
              subst hy1
              clear hk1 hk2 hk3 hk4
              go_wp2_with fail
              go_roundg j
              case measure => omega
              case rel => exact ⟨m + 1, by have := HM.out; omega, by go_num, HG2.out, B2.out⟩
            · have HD : Hid (decide (RightL l) = false) := decide_eq_false (by
                have hx := HXM.out
                rw [HK.out] at hx
                exact bad_next HPM.out hx fun h => hy1 (HY.out.trans h))
              have hyc := cmp_of HY.out
              have hyg : y ≥ 0 := by omega
              clear hk1 hk2 hk3 hk4 hyc hy1
              go_wp2_with fail
              go_ret
              exact ⟨by rw [HD.out]; rfl, B2.out⟩
      · have HD : Hid (decide (RightL l) = false) := decide_eq_false (bad_entry HXM.out fun h => hz0 (hz.trans h.1))
        have hz1 : ((z : Int) == (0 : Int)) = false := by simpa using hz0
        clear hz c1 c2
        go_wp2_with fail
        go_ret
        exact ⟨by rw [HD.out]; rfl, HB.out.trans (B1.out.mono hsz)⟩
end Go.Proofs.YtpokdihnimlgkaaGreatDoor
