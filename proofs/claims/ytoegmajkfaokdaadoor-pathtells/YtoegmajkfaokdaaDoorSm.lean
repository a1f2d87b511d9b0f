/- The reference's Same, Below, Compare; path.Compare. -/
import Derived.Test.YtoegmajkfaokdaaDoorRi
namespace Go.Proofs.YtoegmajkfaokdaaDoor
open Go.RowKit

set_option maxRecDepth 100000 in
theorem same_any {w : World} {A A' : Option Addr} {c c' : Nat} {l l' : List Int} (h : Zs w w.heap.size A l) (h' : Zs w w.heap.size A' l') (hn : l.length ≤ 1000000) :
    Calls Tryd.prog 15 #[.slice A l.length c, .slice A' l'.length c'] w (RetB w (.bool (decide (l = l')))) := by
  have HL := Lib.hid h
  have HL' := Lib.hid h'
  clear h h'
  by_cases hlen : l.length = l'.length
  · rw [← hlen]
    have HLEN := Lib.hid hlen
    clear hlen
    go_enter Tryd.func15, Tryd.ntmps15
    go_wp2_with fail
    go_loopg [13] l.length (fun k i wr => EqZRel w l l' k i wr)
    case atStart => exact ⟨0, by simp, rfl, by simp, Below.refl _ _⟩
    case round =>
      obtain ⟨m, hmk, hi, htk, hb⟩ := hrel
      subst hi
      have HB := Lib.hid hb
      have HT := Lib.hid htk
      cases gk with
      | zero =>
        have hge : l.length ≤ m := by omega
        have HD : Hid (decide (l = l') = true) := decide_eq_true (by
          have h1 := HT.out
          have h2 := HLEN.out
          rwa [List.take_of_length_le hge, List.take_of_length_le (by omega)] at h1)
        clear htk hb
        go_wp2_with fail
        go_ret
        exact ⟨by rw [HD.out] <;> rfl, HB.out⟩
      | succ j =>
        have hm : m < l.length := by omega
        have hm' : m < l'.length := by have := HLEN.out; omega
        obtain ⟨t, hx⟩ : ∃ x, l[m]? = some x := ⟨_, List.getElem?_eq_getElem hm⟩
        obtain ⟨t', hx'⟩ : ∃ x, l'[m]? = some x := ⟨_, List.getElem?_eq_getElem hm'⟩
        obtain ⟨b, o, rfl, hlt, hcells⟩ := (HL.out.below hb) (by omega)
        obtain ⟨b', o', rfl, hlt', hcells'⟩ := (HL'.out.below hb) (by omega)
        have c1 := hcells m t hx
        have c3 := hcells' m t' hx'
        have HM := Lib.hid hmk
        have HX := Lib.hid hx
        have HX' := Lib.hid hx'
        by_cases he : t = t'
        · have hq : (t == t') = true := by simpa using he
          have hq2 : (t != t') = false := by simpa using he
          have HN : Hid (l.take (m + 1) = l'.take (m + 1)) := by
            unfold Hid
            rw [List.take_add_one, List.take_add_one, HT.out, HX.out, HX'.out, he]
          clear hcells hcells' hx hx' hmk htk hb he hm'
          go_wp2_with fail
          go_region
          go_wp2_with fail
          go_roundg j
          case measure => omega
          case rel => exact ⟨m + 1, by have := HM.out; omega, by go_num, HN.out, HB.out.drew⟩
        · have hq : (t == t') = false := by simpa using he
          have hq2 : (t != t') = true := by simpa using he
          have HD : Hid (decide (l = l') = false) := decide_eq_false fun e => by
            have h1 := HX.out
            rw [e, HX'.out] at h1
            injection h1 with h1
            exact he h1.symm
          clear hcells hcells' hx hx' hmk htk hb he hm'
          go_wp2_with fail
          go_region
          go_wp2_with fail
          go_ret
          exact ⟨by rw [HD.out] <;> rfl, HB.out.drew⟩
  · have HD : Hid (decide (l = l') = false) := decide_eq_false fun e => hlen (by rw [e])
    have hne : ((l.length : Int) == (l'.length : Int)) = false := by simpa using (fun h => hlen (by omega))
    have hne2 : ((l.length : Int) != (l'.length : Int)) = true := by simpa using (fun h => hlen (by omega))
    clear hlen
    go_enter Tryd.func15, Tryd.ntmps15
    go_wp2_with fail
    go_ret
    exact ⟨by rw [HD.out] <;> rfl, Below.refl _ _⟩

theorem Tryd.size3 : ∀ w, (Go.sizeOf 3).run Tryd.prog w = .ok 1 w := fun _ => by kernel_rfl
theorem Tryd.elem22 : Tryd.prog.elem 22 = 3 := by kernel_rfl
theorem Tryd.under22 : Tryd.prog.underlying 22 = some (.slice (Tryd.prog.elem 22)) := by kernel_rfl
/-- p[:n], for whatever length that n does not exceed. -/
theorem slice_to22 (a : Addr) (L n c : Nat) (hc : n ≤ c) (W : World) : (Instr.slice 22 (.slice (some a) L c) none (some (.int .i64 (n : Int))) none).run Tryd.prog W = .ok (.slice (some a) n c) W := by
  rw [run_slice_h W 22 _ _ _ Tryd.under22 .i64 _ (by omega) (by omega), Tryd.elem22, Tryd.size3]
  simp [Result.andThen, sliced, Addr.add]
theorem Zs.take {w : World} {B : Nat} {A : Option Addr} {l : List Int} (h : Zs w B A l) (n : Nat) : Zs w B A (l.take n) := fun hp => by
  have hp' : 0 < l.length := by simp at hp; omega
  obtain ⟨b, o, hA, hlt, hc⟩ := h hp'
  refine ⟨b, o, hA, hlt, fun k x hk => hc k x ?_⟩
  rw [List.getElem?_take] at hk
  split at hk
  · exact hk
  · cases hk

set_option maxRecDepth 100000 in
theorem refBelow_any {w : World} {A A' : Option Addr} {c c' : Nat} {l l' : List Int} (h : PL w A c l) (h' : PL w A' c' l') (hn : l.length ≤ 1000000) (hn' : l'.length ≤ 1000000) :
    Calls Tryd.prog 24 #[.slice A l.length c, .slice A' l'.length c'] w (RetB w (.bool (decide (BelowP l l')))) := by
  by_cases hlt : l'.length < l.length
  · obtain ⟨b, o, hA, hb, hc⟩ := h.zs (by omega)
    subst hA
    have e : (l.take l'.length).length = l'.length := by simp; omega
    have hs := slice_to22 ⟨b, o, none⟩ l.length l'.length c (by have := h.cap; omega)
    have H := Lib.hid (same_any (c := c) (c' := c') (h.zs.take l'.length) h'.zs (by simp; omega))
    rw [e] at H
    have HD : Hid (decide (BelowP l l') = decide (l.take l'.length = l')) := by
      unfold Hid
      exact decide_eq_decide.2 ⟨fun h => h.2, fun h => ⟨hlt, h⟩⟩
    clear h h' hc e hb
    go_enter Tryd.func24, Tryd.ntmps24
    go_wp2_with fail
    refine H.out.mono ?_
    rintro e w' ⟨rfl, hb⟩
    have HB := Lib.hid hb
    clear hb
    go_wp2_with fail
    go_ret
    exact ⟨by rw [HD.out] <;> rfl, HB.out⟩
  · have HD : Hid (decide (BelowP l l') = false) := decide_eq_false fun h => hlt h.1
    clear h h'
    go_enter Tryd.func24, Tryd.ntmps24
    go_wp2_with fail
    go_ret
    exact ⟨by rw [HD.out] <;> rfl, Below.refl _ _⟩

def CmpRel (w : World) (p q : List Int) (k : Nat) (i : Value) (wr : World) : Prop :=
  ∃ m, m + k = p.length ∧ m ≤ q.length ∧ i = .int .i64 (m : Int) ∧ (∀ k x y, k < m → p[k]? = some x → q[k]? = some y → cmpI x y = 0) ∧ w = wr

set_option maxRecDepth 100000 in
theorem slicesCompare_any {w : World} {A1 A2 : Option Addr} {c1 c2 B : Nat} {p q : List Int} (h1 : Zs w B A1 p) (h2 : Zs w B A2 q) (hp : p.length ≤ 140737488351232) (hq : q.length ≤ 140737488351232) :
    Calls Tryd.prog 45 #[.slice A1 p.length c1, .slice A2 q.length c2] w fun e w' => e = .returned (.int .i64 (cmpZ p q)) ∧ w = w' := by
  have H1 := Lib.hid h1
  have H2 := Lib.hid h2
  clear h1 h2
  go_enter Tryd.func45, Tryd.ntmps45
  go_wp2_with fail
  go_loopg [11] p.length (fun k i wr => CmpRel w p q k i wr)
  case atStart => exact ⟨0, by simp, by simp, rfl, fun k x y hk => by omega, rfl⟩
  case round =>
    obtain ⟨m, hmk, hmq, hi, hall, hw⟩ := hrel
    subst hi hw
    have HL := Lib.hid (lex_drop m p q hall (by omega) hmq)
    have HA := Lib.hid hall
    clear hall
    cases gk with
    | zero =>
      have hmp : m = p.length := by omega
      subst hmp
      rw [List.drop_length] at HL
      by_cases hlt : p.length < q.length
      · have HV : Hid (cmpZ p q = -1) := by
          rw [Hid, cmpZ, ← HL.out]
          cases hd : q.drop p.length with
          | nil => rw [List.drop_eq_nil_iff] at hd; omega
          | cons a r => rfl
        go_wp2_with fail
        go_ret
        exact ⟨by rw [HV.out]; rfl, rfl⟩
      · have HV : Hid (cmpZ p q = 0) := by
          rw [Hid, cmpZ, ← HL.out, List.drop_eq_nil_of_le (by omega)]
          rfl
        go_wp2_with fail
        go_ret
        exact ⟨by rw [HV.out]; rfl, rfl⟩
    | succ j =>
      have hm : m < p.length := by omega
      obtain ⟨x, hx⟩ : ∃ x, p[m]? = some x := ⟨_, List.getElem?_eq_getElem hm⟩
      obtain ⟨b, o, rfl, hlt, hcells⟩ := H1.out (by omega)
      have cx := hcells m x hx
      have dx : p.drop m = x :: p.drop (m + 1) := by
        obtain ⟨h1, h2⟩ := List.getElem?_eq_some_iff.1 hx
        rw [← h2]
        exact List.drop_eq_getElem_cons h1
      have HM := Lib.hid hmk
      clear hmk hcells
      by_cases hge : q.length ≤ m
      · have HV : Hid (cmpZ p q = 1) := by
          rw [Hid, cmpZ, ← HL.out, dx, List.drop_eq_nil_of_le hge]
          rfl
        clear hx dx
        go_wp2_with fail
        go_ret
        exact ⟨by rw [HV.out]; rfl, rfl⟩
      · have hm2 : m < q.length := by omega
        obtain ⟨y, hy⟩ : ∃ y, q[m]? = some y := ⟨_, List.getElem?_eq_getElem hm2⟩
        obtain ⟨b2, o2, rfl, hlt2, hcells2⟩ := H2.out (by omega)
        have cy := hcells2 m y hy
        have dy : q.drop m = y :: q.drop (m + 1) := by
          obtain ⟨h1, h2⟩ := List.getElem?_eq_some_iff.1 hy
          rw [← h2]
          exact List.drop_eq_getElem_cons h1
        have H29 : Hid (Calls Tryd.prog 59 #[.int .i64 x, .int .i64 y] w fun e w' => e = .returned (.int .i64 (cmpI x y)) ∧ w' = w) := Tryd.cmp_Compare_int x y w
        by_cases hz : cmpI x y = 0
        · rw [hz] at H29
          have HA2 : Hid (∀ k x y, k < m + 1 → p[k]? = some x → q[k]? = some y → cmpI x y = 0) := fun k a b hk ha hb => by
            by_cases e : k = m
            · subst e
              rw [hx] at ha
              rw [hy] at hb
              cases ha
              cases hb
              exact hz
            · exact HA.out k a b (by omega) ha hb
          clear hz hx hy dx dy hcells2 hge
          go_wp2_with (go_at_call 59; refine H29.out.mono ?_; rintro e w' ⟨rfl, rfl⟩)
          go_roundg j
          case measure => omega
          case rel => exact ⟨m + 1, by have := HM.out; omega, by omega, by go_num, HA2.out, rfl⟩
        · have HV : Hid (cmpZ p q = cmpI x y) := by
            rw [Hid, cmpZ, ← HL.out, dx, dy]
            show (if cmpI x y = 0 then _ else _) = _
            rw [if_neg hz]
          obtain ⟨z, hze⟩ : ∃ z, z = cmpI x y := ⟨_, rfl⟩
          rw [← hze] at H29 HV hz
          have hz2 : (z != 0) = true := by simpa using hz
          clear hze hx hy dx dy hcells2 hge
          go_wp2_with (go_at_call 59; refine H29.out.mono ?_; rintro e w' ⟨rfl, rfl⟩)
          go_ret
          exact ⟨by rw [HV.out]; rfl, rfl⟩

set_option maxRecDepth 100000 in
theorem compare_any {w : World} {A1 A2 : Option Addr} {c1 c2 B : Nat} {p q : List Int} (h1 : Zs w B A1 p) (h2 : Zs w B A2 q) (hp : p.length ≤ 140737488351232) (hq : q.length ≤ 140737488351232) :
    Calls Tryd.prog 25 #[.slice A1 p.length c1, .slice A2 q.length c2] w fun e w' => e = .returned (.int .i64 (cmpZ p q)) ∧ w = w' := by
  have H := Lib.hid (slicesCompare_any (c1 := c1) (c2 := c2) h1 h2 hp hq)
  clear h1 h2
  go_enter Tryd.func25, Tryd.ntmps25
  go_wp2_with (go_at_call 45; refine H.out.mono ?_; rintro e w' ⟨rfl, rfl⟩)
  go_ret
  exact ⟨rfl, rfl⟩

def RcRel (w : World) (p q : List Int) (k : Nat) (i : Value) (wr : World) : Prop :=
  ∃ m, m + k = p.length ∧ m ≤ q.length ∧ i = .int .i64 (m : Int) ∧ (∀ k x y, k < m → p[k]? = some x → q[k]? = some y → cmpI x y = 0) ∧ Below w.heap.size w wr

set_option maxRecDepth 100000 in
set_option maxHeartbeats 1000000 in
theorem refCompare_any {w : World} {A1 A2 : Option Addr} {c1 c2 : Nat} {p q : List Int} (h1 : Zs w w.heap.size A1 p) (h2 : Zs w w.heap.size A2 q) (hp : p.length ≤ 1000000) (hq : q.length ≤ 1000000) :
    Calls Tryd.prog 26 #[.slice A1 p.length c1, .slice A2 q.length c2] w (RetB w (.int .i64 (cmpZ p q))) := by
  have H1 := Lib.hid h1
  have H2 := Lib.hid h2
  clear h1 h2
  go_enter Tryd.func26, Tryd.ntmps26
  go_wp2_with fail
  go_loopg [5] p.length (fun k i wr => RcRel w p q k i wr)
  case atStart => exact ⟨0, by simp, by simp, rfl, fun k x y hk => by omega, Below.refl _ _⟩
  case round =>
    obtain ⟨m, hmk, hmq, hi, hall, hb⟩ := hrel
    subst hi
    have HL := Lib.hid (lex_drop m p q hall (by omega) hmq)
    have HA := Lib.hid hall
    have HB := Lib.hid hb
    clear hall
    cases gk with
    | zero =>
      have hmp : m = p.length := by omega
      subst hmp
      rw [List.drop_length] at HL
      clear hb
      by_cases hlt : p.length < q.length
      · have HV : Hid (cmpZ p q = -1) := by
          rw [Hid, cmpZ, ← HL.out]
          cases hd : q.drop p.length with
          | nil => rw [List.drop_eq_nil_iff] at hd; omega
          | cons a r => rfl
        go_wp2_with fail
        go_ret
        exact ⟨by rw [HV.out]; rfl, HB.out⟩
      · have HV : Hid (cmpZ p q = 0) := by
          rw [Hid, cmpZ, ← HL.out, List.drop_eq_nil_of_le (by omega)]
          rfl
        go_wp2_with fail
        go_ret
        exact ⟨by rw [HV.out]; rfl, HB.out⟩
    | succ j =>
      have hm : m < p.length := by omega
      obtain ⟨x, hx⟩ : ∃ x, p[m]? = some x := ⟨_, List.getElem?_eq_getElem hm⟩
      obtain ⟨b, o, rfl, hlt, hcells⟩ := (H1.out.below hb) (by omega)
      have cx := hcells m x hx
      have dx : p.drop m = x :: p.drop (m + 1) := by
        obtain ⟨h1, h2⟩ := List.getElem?_eq_some_iff.1 hx
        rw [← h2]
        exact List.drop_eq_getElem_cons h1
      have HM := Lib.hid hmk
      clear hmk hcells
      by_cases hge : q.length ≤ m
      · have HV : Hid (cmpZ p q = 1) := by
          rw [Hid, cmpZ, ← HL.out, dx, List.drop_eq_nil_of_le hge]
          rfl
        clear hx dx hb
        go_wp2_with fail
        go_ret
        exact ⟨by rw [HV.out]; rfl, HB.out⟩
      · have hm2 : m < q.length := by omega
        obtain ⟨y, hy⟩ : ∃ y, q[m]? = some y := ⟨_, List.getElem?_eq_getElem hm2⟩
        obtain ⟨b2, o2, rfl, hlt2, hcells2⟩ := (H2.out.below hb) (by omega)
        have cy := hcells2 m y hy
        have dy : q.drop m = y :: q.drop (m + 1) := by
          obtain ⟨h1, h2⟩ := List.getElem?_eq_some_iff.1 hy
          rw [← h2]
          exact List.drop_eq_getElem_cons h1
        clear hcells2 hge hb
        by_cases h3 : x < y
        · have HV : Hid (cmpZ p q = -1) := by
            have e : cmpI x y = -1 := by unfold cmpI Lib.compareInt; rw [if_pos h3]
            rw [Hid, cmpZ, ← HL.out, dx, dy]
            show (if cmpI x y = 0 then _ else _) = _
            rw [e, if_neg (by decide)]
          clear hx hy dx dy
          go_wp2_with fail
          go_region
          go_wp2_with fail
          go_ret
          exact ⟨by rw [HV.out]; rfl, HB.out.drew⟩
        · by_cases h4 : y < x
          · have HV : Hid (cmpZ p q = 1) := by
              have e : cmpI x y = 1 := by unfold cmpI Lib.compareInt; rw [if_neg h3, if_pos h4]
              rw [Hid, cmpZ, ← HL.out, dx, dy]
              show (if cmpI x y = 0 then _ else _) = _
              rw [e, if_neg (by decide)]
            clear hx hy dx dy
            go_wp2_with fail
            go_region
            go_wp2_with fail
            go_region
            go_wp2_with fail
            go_ret
            exact ⟨by rw [HV.out]; rfl, HB.out.drew.drew⟩
          · have hz : cmpI x y = 0 := by unfold cmpI Lib.compareInt; rw [if_neg h3, if_neg h4]
            have HA2 : Hid (∀ k x y, k < m + 1 → p[k]? = some x → q[k]? = some y → cmpI x y = 0) := fun k a b hk ha hb => by
              by_cases e : k = m
              · subst e
                rw [hx] at ha
                rw [hy] at hb
                cases ha
                cases hb
                exact hz
              · exact HA.out k a b (by omega) ha hb
            clear hx hy dx dy hz
            go_wp2_with fail
            go_region
            go_wp2_with fail
            go_region
            go_wp2_with fail
            go_roundg j
            case measure => omega
            case rel => exact ⟨m + 1, by have := HM.out; omega, by omega, by go_num, HA2.out, HB.out.drew.drew⟩
end Go.Proofs.YtoegmajkfaokdaaDoor
