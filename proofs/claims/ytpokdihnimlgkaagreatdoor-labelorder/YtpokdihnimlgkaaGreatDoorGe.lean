/- label.Get reads what label.Put wrote of a valid label. -/
import Derived.Test.YtpokdihnimlgkaaGreatDoorPu
import Derived.Test.YtpokdihnimlgkaaGreatDoorMk
namespace Go.Proofs.YtpokdihnimlgkaaGreatDoor
open Go.RowKit

theorem sml_append {a b : List Nat} (ha : Tp.Sml a) (hb : Tp.Sml b) : Tp.Sml (a ++ b) := fun c hc => by
  rcases List.mem_append.1 hc with h | h
  · exact ha c h
  · exact hb c h
theorem sml_ent (e : Ent) : Tp.Sml (entBytes e) := by
  unfold entBytes Tp.txt numBytes
  refine sml_append (sml_append (Tp.enc_sml _) (Tp.bys_sml _)) ?_
  split
  · exact Tp.enc_sml _
  · intro c hc; cases hc
theorem sml_flat (l : List Ent) : Tp.Sml (l.flatMap entBytes) := fun c hc => by
  obtain ⟨e, _, h⟩ := List.mem_flatMap.1 hc
  exact sml_ent e c h
theorem EntRow.kp {S : Nat → Prop} {w w' : World} {B : Nat} {v : Value} {l : List Ent} (h : EntRow w B v l) (hk : Tp.Kp S w w') (hS : ∀ j, B ≤ j → j < w.heap.size → ¬ S j) : EntRow w' B v l := by
  have h0 : w.ownsRow B 33 2 v l.length (entCells l) := h
  refine ⟨h0.1, ?_⟩
  rcases h0.2 with h2 | ⟨g, cap, cur, hv, hb, hh, hr⟩
  · exact .inl h2
  · have hlt := (h0.lt g (by rw [hv]; rfl))
    exact .inr ⟨g, cap, cur, hv, hb, (hk.block g hlt.2 (hS g hb hlt.2)).trans hh, hr⟩

theorem txt_step {s : List UInt8} {s' r rest : List Nat} (h : Tp.txt (str s) ++ rest = Tp.enc s'.length ++ (s' ++ r)) : s' = Tp.bys (str s) ∧ r = rest := by
  unfold Tp.txt at h
  rw [List.append_assoc] at h
  obtain ⟨e1, e2⟩ := Tp.enc_prefix h
  have hl : (Tp.bys (str s)).length = s'.length := by rw [Tp.bys_length]; exact e1
  obtain ⟨h1, h2⟩ := List.append_inj e2 hl
  exact ⟨h1.symm, h2.symm⟩

def GetLabRel (w : World) (g : Nat) (kk : Option Nat) (l : List Ent) (k : Nat) (v i : Value) (wr : World) : Prop :=
  ∃ m, m + k = l.length ∧ i = .int .i64 (m : Int) ∧ Tp.TapeAt wr g kk ((l.drop m).flatMap entBytes) .nilIface ∧ EntRow wr w.heap.size v (l.take m) ∧ Tp.Kp (fun b => b = g) w wr

set_option maxRecDepth 100000 in
set_option maxHeartbeats 2000000 in
theorem get_label {w : World} {B g : Nat} {k : Option Nat} {l : List Ent} (he : Env w) (h8 : 8 ≤ B) (ht : Tp.TapeAt w g k (labBytes l) .nilIface) (hg : B ≤ g) (hr : RightL l) :
    Calls Tryz.prog 28 #[.pointer (some ⟨g, 0, none⟩)] w fun e w' => Below B w w' ∧ ∃ A c, e = .returned (.tuple #[.slice A l.length c, .int .i64 0]) ∧ Lab w' A c l := by
  have hl8 := hr.1
  have HR := Lib.hid hr
  have HX : Hid (∀ e ∈ l, e.1.length ≤ 80 ∧ 0 ≤ e.2 ∧ e.2 ≤ 3) := fun e h => by
    have h1 := entErr_zero.1 (hr.2.1 e h).1
    refine ⟨?_, h1.2⟩
    cases hc : catOf e.1 with
    | none => rw [hc] at h1; cases h1.1
    | some p =>
      obtain ⟨⟨⟨hl, hp⟩, hn⟩, hx⟩ := catOf_iff.1 hc
      have h2 := path_len p.1 hp
      have h3 := dec_len7 (u := p.2) (by omega)
      rw [hx]
      unfold catText
      rw [List.length_append, List.length_cons]
      omega
  have HFL := Lib.hid (flat_len l fun e h => by have := (HX.out e h).1; omega)
  have hglt := ht.lt
  have HKL := Lib.hid ht.row_lt
  have hsm : Tp.Sml (labBytes l) := sml_append (Tp.enc_sml _) (sml_flat l)
  have hlen : (labBytes l).length ≤ 900000 := by
    have h1 := Tp.enc_nine (n := l.length) (by omega)
    have h2 := HFL.out
    unfold labBytes
    rw [List.length_append]
    omega
  have H51 := Lib.hid (Tp.tape_number (most := 8) ht hsm hlen)
  have HE := Lib.hid he
  clear he ht hsm hlen hr
  go_enter Tryz.func28, Tryz.ntmps28
  go_wp2_with fail
  refine H51.out.mono ?_
  rintro e w1 ⟨hkp1, ⟨n, r, hl, hle, hlt, rfl, ht1⟩ | ⟨hno, rfl, T, x, ht1⟩⟩
  case inr => exact absurd (hno l.length (l.flatMap entBytes) rfl (by omega)) (by omega)
  obtain ⟨rfl, rfl⟩ := Tp.enc_prefix (show Tp.enc l.length ++ l.flatMap entBytes = Tp.enc n ++ r from hl)
  have HK1 := Lib.hid hkp1
  have HT1 := Lib.hid ht1
  clear hkp1 ht1 hl hle hlt H51
  go_wp2_with fail
  go_loopg [4, 8] l.length (fun n v i wr => GetLabRel w g k l n v i wr)
  case atStart => exact ⟨0, by simp, rfl, by simpa using HT1.out, World.ownsRow_nil _ _ _ _, HK1.out⟩
  case round =>
    obtain ⟨m, hmk, hi, htp, hrow, hkp⟩ := hrel
    subst hi
    have HT := Lib.hid htp
    have HROW := Lib.hid hrow
    have HK := Lib.hid hkp
    have hsz := hkp.size
    cases gk with
    | zero =>
      have hge : l.length ≤ m := by omega
      rw [List.take_of_length_le hge] at hrow
      obtain ⟨A4, c4, hv4, hlab⟩ := hrow.lab (fun e he => by have := (HX.out e he).1; omega) (by unfold maxLen; omega)
      have hB : Below B w wr := hkp.below (by omega) (fun j hj => by rw [hj]; exact hg)
      have H53 := Lib.hid (Tp.tape_err htp)
      have H14 := Lib.hid (labelRight_any (c := c4) (HE.out.below hB h8) hlab.ents hlab.txt hlab.len)
      rw [decide_eq_true HR.out] at H14
      have HLAB := Lib.hid hlab
      have HB := Lib.hid hB
      subst hv4
      clear hrow hkp htp hlab hB
      go_wp2_with (first
        | (go_at_call 53; refine H53.out.mono ?_; rintro e w' ⟨rfl, rfl⟩)
        | (go_at_call 14; refine H14.out.mono ?_; rintro e w2 ⟨rfl, hb2⟩))
      go_ret2
      exact ⟨HB.out.trans (hb2.mono (by have := HB.out.size; omega)), A4, c4, rfl, HLAB.out.on hb2⟩
    | succ j =>
      have hm : m < l.length := by omega
      obtain ⟨⟨t, z⟩, hx⟩ : ∃ x, l[m]? = some x := ⟨_, List.getElem?_eq_getElem hm⟩
      have hmem := HX.out _ (List.mem_of_getElem? hx)
      simp only at hmem
      obtain ⟨u, hu⟩ : ∃ u : Nat, (u : Int) = z := ⟨z.toNat, by omega⟩
      subst hu
      have hdrop : l.drop m = (t, (u : Int)) :: l.drop (m + 1) := by
        rw [List.drop_eq_getElem_cons hm, (List.getElem?_eq_some_iff.1 hx).2]
      obtain ⟨R, hR⟩ : ∃ R, R = (l.drop (m + 1)).flatMap entBytes := ⟨_, rfl⟩
      have hbytes : (l.drop m).flatMap entBytes = Tp.txt (str t) ++ (Tp.enc u ++ R) := by
        rw [hdrop, List.flatMap_cons, hR]
        unfold entBytes numBytes
        rw [if_pos (by show 0 ≤ (u : Int) ∧ (u : Int) ≤ 4611686018427387903; omega)]
        simp
      have hsmR : Tp.Sml R := by rw [hR]; exact sml_flat _
      have hsm0 : Tp.Sml ((l.drop m).flatMap entBytes) := sml_flat _
      have hlen0 : ((l.drop m).flatMap entBytes).length ≤ 900000 := by
        have h1 := flat_len (l.drop m) fun e he => by have := (HX.out e (List.mem_of_mem_drop he)).1; omega
        have h2 : (l.drop m).length ≤ 8 := by rw [List.length_drop]; omega
        omega
      have H52 := Lib.hid (Tp.tape_text (most := 80) htp hsm0 hlen0)
      rw [hbytes] at H52 hlen0
      have HMK := Lib.hid hmk
      have HX2 := Lib.hid hx
      have HRR := Lib.hid hR
      have HSR : Hid (Tp.Sml (Tp.enc u ++ R)) := sml_append (Tp.enc_sml _) hsmR
      have HLR : Hid ((Tp.enc u ++ R).length ≤ 900000) := by
        unfold Hid
        rw [List.length_append] at hlen0
        omega
      clear hdrop hbytes hsmR hsm0 hlen0 hx hmk htp hrow hkp hR
      go_wp2_with fail
      refine H52.out.mono ?_
      rintro e w2 ⟨hk2, ⟨s, r, hs, hsl, rfl, ht2⟩ | ⟨hno, rfl, T, x, ht2⟩⟩
      case inr =>
        have h1 := hno (Tp.bys (str t)) (Tp.enc u ++ R) (by unfold Tp.txt; rw [Tp.bys_length, List.append_assoc]) (by rw [Tp.bys_length, str_size]; omega)
        rw [Tp.bys_length, str_size] at h1
        omega
      obtain ⟨rfl, rfl⟩ := txt_step hs
      rw [Tp.str_bys]
      have K2 : Hid (Tp.Kp (fun b => b = g) w w2) := HK.out.andThen hk2 (fun _ _ h => h)
      have R2 := Lib.hid (HROW.out.kp hk2 (fun j hj _ e => by omega))
      have H51b := Lib.hid (Tp.tape_number (most := 3) ht2 HSR.out HLR.out)
      clear hk2 ht2 hs hsl H52
      go_wp2_with fail
      refine H51b.out.mono ?_
      rintro e w3 ⟨hk3, ⟨n, r, hl3, hle3, hlt3, rfl, ht3⟩ | ⟨hno, rfl, T, x, ht3⟩⟩
      case inr => exact absurd (hno u R rfl (by omega)) (by omega)
      obtain ⟨rfl, rfl⟩ := Tp.enc_prefix hl3
      have K3 : Hid (Tp.Kp (fun b => b = g) w w3) := K2.out.andThen hk3 (fun _ _ h => h)
      have R3 := Lib.hid (R2.out.kp hk3 (fun j hj _ e => by omega))
      have T3 := Lib.hid ht3
      have hle : (l.take m).length + [(t, (u : Int))].length ≤ 1000001 := by simp; omega
      have hs3 := K3.out.size
      have hbase : w.heap.size ≤ (w3.alloc (.cells #[.string (str t), .int .i64 (u : Int)] 33)).heap.size := by simp; omega
      have hg3 := ht3.lt
      clear hk3 ht3 hl3 hle3 hlt3 H51b
      go_wp2_with (first
        | (at_builtin; refine wpList_append_ents rfl _ _ 23 Tryz.underlying23 rfl w.heap.size _ _ rfl (R3.out.alloc _) (w3.heap.size + 1) (some ⟨w3.heap.size, 0, none⟩) 1 [(t, (u : Int))] rfl (ents_one _ _ _) (fun h => by cases h) hle hbase ?_))
      intro v' w4 hown hb4
      have R4 := Lib.hid hown
      have hall : Below w.heap.size w3 w4 := ((Below.refl _ _).alloc hs3 _).trans hb4
      have K4 : Hid (Tp.Kp (fun b => b = g) w w4) := ⟨hall.os.trans K3.out.os, hall.tape.trans K3.out.tape, hall.output.trans K3.out.output, Nat.le_trans K3.out.size hall.size, fun j hj hne => (hall.block j hj).trans (K3.out.block j hj hne)⟩
      have T4 : Hid (Tp.TapeAt w4 g k R .nilIface) := T3.out.kp (S := fun j => w.heap.size ≤ j) ⟨hall.os, hall.tape, hall.output, hall.size, fun j _ hne => hall.block j (by omega)⟩ (by omega) (fun j hj => by have := HKL.out j hj; omega)
      clear hown hb4 hall
      go_wp2_with fail
      go_roundg j
      case measure => omega
      case rel =>
        refine ⟨m + 1, by have := HMK.out; omega, by go_num, by rw [← HRR.out]; exact T4.out, ?_, K4.out⟩
        rw [List.take_add_one, HX2.out]
        exact R4.out
end Go.Proofs.YtpokdihnimlgkaaGreatDoor
