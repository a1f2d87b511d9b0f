/- owns.Get reads what owns.Put wrote of an ownership. -/
import Derived.Test.YtglidfmgechneaaGreatDoorPn
import Derived.Test.YtglidfmgechneaaGreatDoorOc
namespace Go.Proofs.YtglidfmgechneaaGreatDoor
open Go.RowKit

theorem sml_append {a b : List Nat} (ha : Tp.Sml a) (hb : Tp.Sml b) : Tp.Sml (a ++ b) := fun c hc => by
  rcases List.mem_append.1 hc with h | h
  · exact ha c h
  · exact hb c h
theorem sml_cat (x : List UInt8) : Tp.Sml (catBytes x) := by
  unfold catBytes Tp.txt
  exact sml_append (Tp.enc_sml _) (Tp.bys_sml _)
theorem sml_flatC (l : List (List UInt8)) : Tp.Sml (l.flatMap catBytes) := fun c hc => by
  obtain ⟨e, _, h⟩ := List.mem_flatMap.1 hc
  exact sml_cat e c h
theorem StrRow.kp {S : Nat → Prop} {w w' : World} {B : Nat} {v : Value} {l : List (List UInt8)} (h : StrRow w B v l) (hk : Tp.Kp S w w') (hS : ∀ j, B ≤ j → j < w.heap.size → ¬ S j) : StrRow w' B v l := by
  have h0 : w.ownsRow B 9 1 v l.length (strCellsOf l) := h
  refine ⟨h0.1, ?_⟩
  rcases h0.2 with h2 | ⟨g, cap, cur, hv, hb, hh, hr⟩
  · exact .inl h2
  · have hlt := (h0.lt g (by rw [hv]; rfl))
    exact .inr ⟨g, cap, cur, hv, hb, (hk.block g hlt.2 (hS g hb hlt.2)).trans hh, hr⟩
theorem StrRow.sl {w : World} {B : Nat} {v : Value} {l : List (List UInt8)} (h : StrRow w B v l) (hx : ∀ x ∈ l, x.length ≤ 140737488351232) (hn : l.length ≤ 1000000) : ∃ A c, v = .slice A l.length c ∧ SL w A c l := by
  obtain ⟨A, c, hv, hs⟩ := h.strs
  refine ⟨A, c, hv, hs, fun hA => ?_, hx, hn⟩
  have h0 : w.ownsRow B 9 1 v l.length (strCellsOf l) := h
  rcases h0.2 with ⟨h2, he⟩ | ⟨g, cap, cur, hv2, _⟩
  · rw [h2] at hv
    injection hv with _ _ h3
    exact h3.symm
  · rw [hv2, hA] at hv
    injection hv with h3
    cases h3

theorem txt_step {s : List UInt8} {s' r rest : List Nat} (h : Tp.txt (str s) ++ rest = Tp.enc s'.length ++ (s' ++ r)) : s' = Tp.bys (str s) ∧ r = rest := by
  unfold Tp.txt at h
  rw [List.append_assoc] at h
  obtain ⟨e1, e2⟩ := Tp.enc_prefix h
  have hl : (Tp.bys (str s)).length = s'.length := by rw [Tp.bys_length]; exact e1
  obtain ⟨h1, h2⟩ := List.append_inj e2 hl
  exact ⟨h1.symm, h2.symm⟩

theorem own_len80 {l : List (List UInt8)} (h : OwnL l) : ∀ x ∈ l, x.length ≤ 80 := fun x hx => by
  have h1 := h.2.2 x hx
  cases hc : catOf x with
  | none => rw [hc] at h1; cases h1
  | some p =>
    obtain ⟨⟨⟨hl, hp⟩, hn⟩, hx⟩ := catOf_iff.1 hc
    have h2 := path_len p.1 hp
    have h3 := dec_len7 (u := p.2) (by omega)
    rw [hx]
    unfold catText
    rw [List.length_append, List.length_cons]
    omega

def GetORel (w : World) (g : Nat) (kk : Option Nat) (l : List (List UInt8)) (k : Nat) (v i : Value) (wr : World) : Prop :=
  ∃ m, m + k = l.length ∧ i = .int .i64 (m : Int) ∧ Tp.TapeAt wr g kk ((l.drop m).flatMap catBytes) .nilIface ∧ StrRow wr w.heap.size v (l.take m) ∧ Tp.Kp (fun b => b = g) w wr

set_option maxRecDepth 100000 in
set_option maxHeartbeats 2000000 in
theorem get_own {w : World} {B g : Nat} {k : Option Nat} {l : List (List UInt8)} (he : Env w) (h8 : 8 ≤ B) (ht : Tp.TapeAt w g k (ownBytes l) .nilIface) (hg : B ≤ g) (hr : OwnL l) :
    Calls Tryz.prog 30 #[.pointer (some ⟨g, 0, none⟩)] w fun e w' => Below B w w' ∧ ∃ A c, e = .returned (.tuple #[.slice A l.length c, .int .i64 0]) ∧ SL w' A c l := by
  have hl8 := hr.1
  have HR := Lib.hid hr
  have HX := Lib.hid (own_len80 hr)
  have HFL := Lib.hid (flatC_len l fun e h => by have := HX.out e h; omega)
  have hglt := ht.lt
  have HKL := Lib.hid ht.row_lt
  have hsm : Tp.Sml (ownBytes l) := sml_append (Tp.enc_sml _) (sml_flatC l)
  have hlen : (ownBytes l).length ≤ 900000 := by
    have h1 := Tp.enc_nine (n := l.length) (by omega)
    have h2 := HFL.out
    unfold ownBytes
    rw [List.length_append]
    omega
  have H58 := Lib.hid (Tp.tape_number (most := 8) ht hsm hlen)
  have HE := Lib.hid he
  clear he ht hsm hlen hr
  go_enter Tryz.func30, Tryz.ntmps30
  go_wp2_with fail
  refine H58.out.mono ?_
  rintro e w1 ⟨hkp1, ⟨n, r, hl, hle, hlt, rfl, ht1⟩ | ⟨hno, rfl, T, x, ht1⟩⟩
  case inr => exact absurd (hno l.length (l.flatMap catBytes) rfl (by omega)) (by omega)
  obtain ⟨rfl, rfl⟩ := Tp.enc_prefix (show Tp.enc l.length ++ l.flatMap catBytes = Tp.enc n ++ r from hl)
  have HK1 := Lib.hid hkp1
  have HT1 := Lib.hid ht1
  clear hkp1 ht1 hl hle hlt H58
  go_wp2_with fail
  go_loopg [4, 7] l.length (fun n v i wr => GetORel w g k l n v i wr)
  case atStart => exact ⟨0, by simp, rfl, by simpa using HT1.out, World.ownsRow_nil _ _ _ _, HK1.out⟩
  case round =>
    obtain ⟨m, hmk, hi, htp, hrow, hkp⟩ := hrel
    subst hi
    have HT := Lib.hid htp
    have HROW := Lib.hid hrow
    have HK := Lib.hid hkp
    have hsz := hkp.size
    cases gk with
    | zero =>
      have hge : l.length ≤ m := by omega
      rw [List.take_of_length_le hge] at hrow
      obtain ⟨A4, c4, hv4, hsl⟩ := hrow.sl (own_cat_len HR.out) (by omega)
      have hB : Below B w wr := hkp.below (by omega) (fun j hj => by rw [hj]; exact hg)
      have H60 := Lib.hid (Tp.tape_err htp)
      have H16 := Lib.hid (ownRight_any (c := c4) (HE.out.below hB h8) hsl)
      rw [decide_eq_true HR.out] at H16
      have HSL := Lib.hid hsl
      have HB := Lib.hid hB
      subst hv4
      clear hrow hkp htp hsl hB
      go_wp2_with (first
        | (go_at_call 60; refine H60.out.mono ?_; rintro e w' ⟨rfl, rfl⟩)
        | (go_at_call 16; refine H16.out.mono ?_; rintro e w2 ⟨rfl, hb2⟩))
      go_ret2
      exact ⟨HB.out.trans (hb2.mono (by have := HB.out.size; omega)), A4, c4, rfl, HSL.out.on hb2⟩
    | succ j =>
      have hm : m < l.length := by omega
      obtain ⟨t, hx⟩ : ∃ x, l[m]? = some x := ⟨_, List.getElem?_eq_getElem hm⟩
      have hmem := HX.out _ (List.mem_of_getElem? hx)
      have hdrop : l.drop m = t :: l.drop (m + 1) := by
        rw [List.drop_eq_getElem_cons hm, (List.getElem?_eq_some_iff.1 hx).2]
      obtain ⟨R, hR⟩ : ∃ R, R = (l.drop (m + 1)).flatMap catBytes := ⟨_, rfl⟩
      have hbytes : (l.drop m).flatMap catBytes = Tp.txt (str t) ++ R := by
        rw [hdrop, List.flatMap_cons, hR]
        rfl
      have hsm0 : Tp.Sml ((l.drop m).flatMap catBytes) := sml_flatC _
      have hlen0 : ((l.drop m).flatMap catBytes).length ≤ 900000 := by
        have h1 := flatC_len (l.drop m) fun e he => by have := HX.out e (List.mem_of_mem_drop he); omega
        have h2 : (l.drop m).length ≤ 8 := by rw [List.length_drop]; omega
        omega
      have H59 := Lib.hid (Tp.tape_text (most := 80) htp hsm0 hlen0)
      rw [hbytes] at H59
      have HMK := Lib.hid hmk
      have HX2 := Lib.hid hx
      have HRR := Lib.hid hR
      clear hdrop hbytes hsm0 hlen0 hx hmk htp hrow hkp hR
      go_wp2_with fail
      refine H59.out.mono ?_
      rintro e w2 ⟨hk2, ⟨s, r, hs, hsl, rfl, ht2⟩ | ⟨hno, rfl, T, x, ht2⟩⟩
      case inr =>
        have h1 := hno (Tp.bys (str t)) R (by unfold Tp.txt; rw [Tp.bys_length, List.append_assoc]) (by rw [Tp.bys_length, str_size]; omega)
        rw [Tp.bys_length, str_size] at h1
        omega
      obtain ⟨rfl, rfl⟩ := txt_step hs
      rw [Tp.str_bys]
      have K3 : Hid (Tp.Kp (fun b => b = g) w w2) := HK.out.andThen hk2 (fun _ _ h => h)
      have R3 := Lib.hid (HROW.out.kp hk2 (fun j hj _ e => by omega))
      have T3 := Lib.hid ht2
      have hle : (l.take m).length + 1 ≤ 1000001 := by simp; omega
      have hs3 := K3.out.size
      have hbase : w.heap.size ≤ (w2.alloc (.cells #[.string (str t)] 9)).heap.size := by simp; omega
      have hg3 := ht2.lt
      clear hk2 ht2 hs hsl H59
      go_wp2_with (first
        | (at_builtin; refine wpList_append_one rfl _ _ rfl w.heap.size _ (l.take m) rfl (World.ownsRow.alloc R3.out _) ⟨w2.heap.size, 0, none⟩ t rfl (cell_one_new _ _ _) hle hbase ?_))
      intro v' w4 hown hb4
      have R4 := Lib.hid hown
      have hall : Below w.heap.size w2 w4 := ((Below.refl _ _).alloc hs3 _).trans hb4
      have K4 : Hid (Tp.Kp (fun b => b = g) w w4) := ⟨hall.os.trans K3.out.os, hall.tape.trans K3.out.tape, hall.output.trans K3.out.output, Nat.le_trans K3.out.size hall.size, fun j hj hne => (hall.block j hj).trans (K3.out.block j hj hne)⟩
      have T4 : Hid (Tp.TapeAt w4 g k r .nilIface) := T3.out.kp (S := fun j => w.heap.size ≤ j) ⟨hall.os, hall.tape, hall.output, hall.size, fun j _ hne => hall.block j (by omega)⟩ (by omega) (fun j hj => by have := HKL.out j hj; omega)
      clear hown hb4 hall
      go_wp2_with fail
      go_roundg j
      case measure => omega
      case rel =>
        refine ⟨m + 1, by have := HMK.out; omega, by go_num, by rw [← HRR.out]; exact T4.out, ?_, K4.out⟩
        rw [List.take_add_one, HX2.out]
        exact R4.out
end Go.Proofs.YtglidfmgechneaaGreatDoor
