/- label.Make. -/
import Derived.Test.YtpokdihnimlgkaaGreatDoorFl
import Derived.Test.YtpokdihnimlgkaaGreatDoorLv
import Derived.Test.YtpokdihnimlgkaaGreatDoorS
namespace Go.Proofs.YtpokdihnimlgkaaGreatDoor
open Go.RowKit

/-- A label that is handed back, with an error's number. -/
def RetLab (w : World) (P : List Ent → Int → Prop) (e : Ending) (w' : World) : Prop :=
  Below w.heap.size w w' ∧ ∃ A c m n, P m n ∧ e = .returned (.tuple #[.slice A m.length c, .int .i64 n]) ∧ Lab w' A c m
theorem lab_nil (w : World) : Lab w none 0 [] := ⟨Ents.nil _ _ _, fun _ => rfl, by simp, by simp⟩
theorem EntRow.alloc {w : World} {B : Nat} {v : Value} {l : List Ent} (h : EntRow w B v l) (o : Obj) : EntRow (w.alloc o) B v l := World.ownsRow.alloc h o
theorem EntRow.lab {w : World} {B : Nat} {v : Value} {l : List Ent} (h : EntRow w B v l) (hx : ∀ e ∈ l, e.1.length ≤ 140737488351232) (hn : l.length ≤ maxLen) : ∃ A c, v = .slice A l.length c ∧ Lab w A c l := by
  obtain ⟨A, c, hv, h0, he⟩ := h.ents
  exact ⟨A, c, hv, he, h0, hx, hn⟩

def MkRel (w : World) (l : List Ent) (k : Nat) (i : Value) (wr : World) : Prop :=
  ∃ m, m + k = l.length ∧ i = .int .i64 (m : Int) ∧ (∀ x ∈ l.take m, entErr x = 0) ∧ (∃ n, n ≤ m ∧ LevIs wr w.heap.size n (last (l.take m))) ∧ Below w.heap.size w wr
def MkRel2 (w : World) (f : List UInt8 → Int) (R : List (List UInt8)) (k : Nat) (v i : Value) (wr : World) : Prop :=
  ∃ m, m + k = R.length ∧ i = .int .i64 (m : Int) ∧ EntRow wr w.heap.size v ((R.take m).map fun c => (c, f c)) ∧ Below w.heap.size w wr
theorem take_snoc {l : List Ent} {m : Nat} {e : Ent} (h : l[m]? = some e) : l.take (m + 1) = l.take m ++ [e] := by
  rw [List.take_add_one, h]
  rfl

set_option maxRecDepth 100000 in
set_option maxHeartbeats 2000000 in
theorem make_any {w : World} {A : Option Addr} {c : Nat} {l : List Ent} (he : Env w) (hl : Ents w w.heap.size A l) (hx : ∀ e ∈ l, e.1.length ≤ 140737488351232) (hn : l.length ≤ 1000000) :
    Calls Tryz.prog 9 #[.slice A l.length c] w (RetLab w (MakeOut l)) := by
  have HE := Lib.hid he
  have HL := Lib.hid hl
  have HX := Lib.hid hx
  clear he hl hx
  have hmm := @run_makeMap Tryz.prog
  go_enter Tryz.func9, Tryz.ntmps9
  go_wp2_with fail
  go_loopg [14] l.length (fun k i wr => MkRel w l k i wr)
  case atStart => exact ⟨0, by simp, rfl, by simp, ⟨0, Nat.le_refl _, LevIs.made w⟩, (Below.refl _ _).alloc (Nat.le_refl _) _⟩
  case round =>
    clear hmm
    obtain ⟨m, hmk, hi, hno, ⟨n0, hn0, hlv⟩, hb⟩ := hrel
    subst hi
    have HB := Lib.hid hb
    have HNO := Lib.hid hno
    have HLV := Lib.hid hlv
    have hsz := hb.size
    have hgl := hlv.lt
    have EW := HE.out.on hb
    cases gk with
    | zero =>
      have hge : l.length ≤ m := by omega
      rw [List.take_of_length_le hge] at HLV HNO
      have H0 : Hid (firstErr l = 0) := firstErr_zero.2 HNO.out
      obtain ⟨f, hf⟩ : ∃ f, f = last l := ⟨_, rfl⟩
      rw [← hf] at HLV
      have HF := Lib.hid hf
      have HEW := Lib.hid EW
      have hn6 : n0 ≤ 1000000 := by omega
      clear hno hlv hb hf EW HNO
      obtain ⟨ks, hks, hkn, hlenr⟩ := HLV.out.size
      have HKS := Lib.hid hks
      clear hks
      by_cases h8 : 8 < ks.length
      · have h8' : (ks.length : Int) > 8 := by omega
        go_wp2_with fail
        go_ret2
        refine ⟨HB.out, none, 0, [], 13, ?_, rfl, lab_nil _⟩
        obtain ⟨m', hm', hl'⟩ := labs_exists HKS.out
        rw [HF.out] at hm'
        exact .inr ⟨H0.out, m', hm', .inl ⟨by omega, rfl, rfl⟩⟩
      · have h8' : ¬ (ks.length : Int) > 8 := by omega
        have HC := Lib.hid (collect_any HLV.out hn6)
        go_wp2_with fail
        clear hlenr
        refine (keys_any _ _).mono ?_
        rintro e w' ⟨rfl, rfl⟩
        go_wp2_with fail
        refine HC.out.mono ?_
        rintro e w1 ⟨v, ks2, rfl, hka, hrow, hkl, hb1⟩
        obtain ⟨A2, c2, rfl, hstr⟩ := hrow.strs
        have B1 : Hid (Below wr.heap.size wr w1) := ((Below.refl _ _).alloc (Nat.le_refl _) _).trans (hb1.mono (by omega))
        have hcatK : Hid (∀ x, f x ≠ 1 → (catOf x).isSome = true) := fun x h => last_cat H0.out (by rw [← HF.out]; exact h)
        have HS := Lib.hid (sort_any (c := c2) (HEW.out.on B1.out) hstr (fun x h => cat_len (hcatK.out x ((hka.2 x).1 h))) (by omega))
        have HKA := Lib.hid hka
        have LV1 := Lib.hid (HLV.out.below B1.out)
        clear hb1 hrow hstr hka HC
        go_wp2_with fail
        refine HS.out.mono ?_
        rintro e w2 ⟨hb2, A3, c3, R, rfl, hst3, hris, hmem⟩
        have HMEM : Hid (∀ x, x ∈ R ↔ f x ≠ 1) := fun x => by
          rw [hmem x, HKA.out.2 x]
          exact ⟨fun h => h.1, fun h => ⟨h, hcatK.out x h⟩⟩
        have HRIS := Lib.hid hris
        have B2 : Hid (Below w.heap.size w w2) := HB.out.trans ((B1.out.trans (hb2.mono B1.out.size)).mono hsz)
        have LV2 := Lib.hid (LV1.out.below hb2)
        have HST := Lib.hid hst3
        have hRl : R.length = ks.length := KeysAre.length (f := f) ⟨rises_nodup HRIS.out, HMEM.out⟩ HKS.out
        have HRL := Lib.hid hRl
        clear hb2 hst3 hris hmem HS
        have hR8 : R.length ≤ 8 := by omega
        clear hRl
        go_wp2_with fail
        go_loopg [8, 43] R.length (fun k v i wr => MkRel2 w2 f R k v i wr)
        case atStart => exact ⟨0, by simp, rfl, World.ownsRow_nil _ _ _ _, Below.refl _ _⟩
        case round =>
          obtain ⟨m2, hmk2, hi2, hrow, hb3⟩ := hrel
          subst hi2
          have HB3 := Lib.hid hb3
          have HROW := Lib.hid hrow
          have hs3 := hb3.size
          cases gk with
          | zero =>
            have hge2 : R.length ≤ m2 := by omega
            rw [List.take_of_length_le hge2] at hrow
            obtain ⟨A4, c4, hv4, hlab⟩ := hrow.lab (fun e he => by
              obtain ⟨x, hx, rfl⟩ := List.mem_map.1 he
              exact cat_len (hcatK.out x ((HMEM.out x).1 hx))) (by simp; unfold maxLen; omega)
            have HLAB := Lib.hid hlab
            have HOUT : Hid (MakeOut l (R.map fun c => (c, f c)) 0) := .inr ⟨H0.out, _, by rw [← HF.out]; exact labs_rises HRIS.out HMEM.out, .inr ⟨by simp; omega, rfl, rfl⟩⟩
            subst hv4
            clear hrow hb3 hlab
            go_wp2_with fail
            go_ret2
            refine ⟨B2.out.trans (HB3.out.mono B2.out.size), A4, c4, _, 0, HOUT.out, ?_, HLAB.out⟩
            simp
          | succ j =>
            have hm2 : m2 < R.length := by omega
            obtain ⟨x, hx⟩ : ∃ x, R[m2]? = some x := ⟨_, List.getElem?_eq_getElem hm2⟩
            obtain ⟨b, o, rfl, hlt, hcells⟩ := (HST.out.below hb3) (by omega)
            have cx := hcells m2 x hx
            have hfx : f x ≠ 1 := (HMEM.out x).1 (List.mem_of_getElem? hx)
            have hxl := cat_len (hcatK.out x hfx)
            have hlk := (LV2.out.below hb3).look hxl hfx
            obtain ⟨y, hy⟩ : ∃ y, y = f x := ⟨_, rfl⟩
            rw [← hy] at hlk
            have HY := Lib.hid hy
            have HX2 := Lib.hid hx
            have HMK2 := Lib.hid hmk2
            have hle : ((R.take m2).map fun c => (c, f c)).length + [(x, y)].length ≤ 1000001 := by simp; omega
            have hbase : w2.heap.size ≤ (wr.alloc (.cells #[.string (str x), .int .i64 y] 33)).heap.size := by simp; omega
            clear hcells hx hmk2 hrow hb3 hfx hy
            go_wp2_with (first
              | (at_builtin; refine wpList_append_ents rfl _ _ 23 Tryz.underlying23 rfl w2.heap.size _ _ rfl (HROW.out.alloc _) (wr.heap.size + 1) (some ⟨wr.heap.size, 0, none⟩) 1 [(x, y)] rfl (ents_one _ _ _) (fun h => by cases h) hle hbase ?_))
            intro v' w3 hown hb4
            have R3 := Lib.hid hown
            have B4 := Lib.hid ((HB3.out.alloc hs3 _).trans hb4)
            clear hown hb4 hlk cx
            go_wp2_with fail
            go_roundg j
            case measure => omega
            case rel =>
              refine ⟨m2 + 1, by have := HMK2.out; omega, by go_num, ?_, B4.out⟩
              have e := R3.out
              rw [List.take_add_one, HX2.out, List.map_append]
              rw [HY.out] at e
              simpa using e
    | succ j =>
      have hm : m < l.length := by omega
      obtain ⟨⟨t, n⟩, hx⟩ : ∃ x, l[m]? = some x := ⟨_, List.getElem?_eq_getElem hm⟩
      obtain ⟨b, o, rfl, hlt, hcells⟩ := (HL.out.below hb) (by omega)
      obtain ⟨c1, c2⟩ := hcells m t n hx
      have HM := Lib.hid hmk
      have HXM := Lib.hid hx
      have htl : t.length ≤ 140737488351232 := HX.out _ (List.mem_of_getElem? hx)
      obtain ⟨W0, hW0⟩ : ∃ W0, W0 = wr.alloc (.cells #[.string (str t), .int .i64 n] 33) := ⟨_, rfl⟩
      have hB0 : Below wr.heap.size wr W0 := by rw [hW0]; exact (Below.refl _ _).alloc (Nat.le_refl _) _
      have H30 := Lib.hid (entryError_any (n := n) (EW.on hB0) htl)
      have HB0 := Lib.hid hB0
      have k0 : W0.cell? ⟨wr.heap.size, 0, none⟩ = some (.string (str t)) := by rw [hW0]; simp
      have k1 : W0.cell? ⟨wr.heap.size, 1, none⟩ = some (.int .i64 n) := by rw [hW0]; simp
      have K0 := Lib.hid k0
      have K1 := Lib.hid k1
      have hs0 : W0.heap.size = wr.heap.size + 1 := by rw [hW0]; simp
      have HS := Lib.hid hs0
      have HW0 := Lib.hid hW0
      clear hcells hx hmk hno hB0 k0 k1 EW hW0 hs0 hlv hb
      go_wp2_with fail
      rw [← HW0.out]
      refine H30.out.mono ?_
      rintro e w1 ⟨rfl, hb1⟩
      have hS := HS.out
      have B1 := Lib.hid (HB0.out.trans (hb1.mono HB0.out.size))
      have c3 : w1.cell? ⟨wr.heap.size, 0, none⟩ = some (.string (str t)) := (hb1.cell (p := ⟨wr.heap.size, 0, none⟩) (show wr.heap.size < _ by omega)).trans K0.out
      have c4 : w1.cell? ⟨wr.heap.size, 1, none⟩ = some (.int .i64 n) := (hb1.cell (p := ⟨wr.heap.size, 1, none⟩) (show wr.heap.size < _ by omega)).trans K1.out
      have LV1 := Lib.hid (HLV.out.below B1.out)
      have B1w : Hid (Below w.heap.size w w1) := HB.out.trans (B1.out.mono hsz)
      have hs1 := B1w.out.size
      clear hb1 H30
      obtain ⟨z, hz⟩ : ∃ z, z = entErr (t, n) := ⟨_, rfl⟩
      rw [← hz]
      by_cases hz0 : z = 0
      · have HZ : Hid (entErr (t, n) = 0) := hz.symm.trans hz0
        have HN2 := Lib.hid (take_no (P := fun x => entErr x = 0) HXM.out HNO.out HZ.out)
        have HT2 := Lib.hid (take_snoc HXM.out)
        have hrng := (entErr_zero.1 HZ.out).2
        subst hz0
        by_cases h1 : n = 1
        · subst h1
          clear hz c1 c2
          go_wp2_with (first
            | (at_delete; refine wpList_del_lev rfl _ _ rfl w.heap.size n0 _ rfl LV1.out t htl rfl ?_; intro w2 hlv2 hg2))
          have LV2 := Lib.hid hlv2
          have B2 := Lib.hid (B1w.out.grown hg2 hs1 (fun j hj => by cases hj; exact Nat.le_refl _))
          clear hlv2 hg2 c3 c4
          go_wp2_with fail
          go_roundg j
          case measure => omega
          case rel => exact ⟨m + 1, by have := HM.out; omega, by go_num, HN2.out, ⟨n0, by omega, by rw [HT2.out]; exact LV2.out⟩, B2.out⟩
        · have hn1 : ((n : Int) == (1 : Int)) = false := by simpa using h1
          have hn6 : n0 ≤ 1000000 := by omega
          clear hz c1 c2
          go_wp2_with (first
            | (at_mapUpdate; refine wpList_put_lev rfl _ _ _ rfl w.heap.size n0 _ rfl LV1.out hn6 t n htl hrng h1 rfl rfl ?_; intro w2 hlv2 hg2))
          have LV2 := Lib.hid hlv2
          have B2 := Lib.hid (B1w.out.grown hg2 hs1 (fun j hj => by cases hj; exact Nat.le_refl _))
          clear hlv2 hg2 c3 c4
          go_wp2_with fail
          go_roundg j
          case measure => omega
          case rel => exact ⟨m + 1, by have := HM.out; omega, by go_num, HN2.out, ⟨n0 + 1, by omega, by rw [HT2.out]; exact LV2.out⟩, B2.out⟩
      · have HF : Hid (firstErr l = z) := by rw [hz]; exact firstErr_hit HXM.out HNO.out (by rw [← hz]; exact hz0)
        have hz1 : ((z : Int) == (0 : Int)) = false := by simpa using hz0
        clear hz c1 c2
        go_wp2_with fail
        go_ret2
        exact ⟨B1w.out, none, 0, [], z, .inl ⟨by rw [HF.out]; exact hz0, rfl, HF.out.symm⟩, rfl, lab_nil _⟩
end Go.Proofs.YtpokdihnimlgkaaGreatDoor
