/- Lemmas for the law: Zo, Zp, Xe, QSm, QPc, Xq, Xh. -/
import Derived.Test.YtgcbfggoddkhnaaGreatDoorM12
import Derived.Test.YtgcbfggoddkhnaaGreatDoorM06
import Derived.Test.YtgcbfggoddkhnaaGreatDoorM08
import Derived.Test.YtgcbfggoddkhnaaGreatDoorM04
import Derived.Test.YtgcbfggoddkhnaaGreatDoorM13
import Derived.BigQuiet
import Derived.Test.YtgcbfggoddkhnaaGreatDoorM09
namespace Go.Proofs.YtgcbfggoddkhnaaGreatDoor
open Go.RowKit
def TapeS (w : World) (g : Nat) (k : Option Nat) (s : St) : Prop := Pa.TapeE w g k s.1 s.2
theorem TapeS.kp {S : Nat → Prop} {w w' : World} {g : Nat} {k : Option Nat} {s : St} (h : TapeS w g k s) (hk : Tp.Kp S w w') (hg : ¬ S g) (hr : ∀ j, k = some j → ¬ S j) : TapeS w' g k s := Pa.TapeE.kp h hk hg hr
theorem TapeS.lt {w : World} {g : Nat} {k : Option Nat} {s : St} (h : TapeS w g k s) : g < w.heap.size := Pa.TapeE.lt h
theorem TapeS.row_lt {w : World} {g : Nat} {k : Option Nat} {s : St} (h : TapeS w g k s) : ∀ j, k = some j → j < w.heap.size := by
 rcases h with ⟨_, h⟩ | ⟨_, T, x, h⟩
 · exact h.row_lt
 · exact h.row_lt
theorem TapeS.on {w w' : World} {g : Nat} {k : Option Nat} {s : St} (h : TapeS w g k s) (hb : Below w.heap.size w w') : TapeS w' g k s := h.kp (Tp.Kp.of_below hb fun _ => False) (fun h => h) (fun _ _ h => h)
def GotS (w : World) (g : Nat) (k : Option Nat) (s : St) (w' : World) : Prop := TapeS w' g k s ∧ Tp.Kp (fun b => b = g) w w'
theorem tapeS_num {w : World} {g : Nat} {k : Option Nat} {s : St} {most : Int} (h : TapeS w g k s) (hs : Tp.Sml s.1) (hn : s.1.length ≤ 80000000) :
  Calls Tryz.prog 90 #[.pointer (some ⟨g, 0, none⟩), .int .i64 most] w fun e w' => e = .returned (.int .i64 (nS most s).1) ∧ GotS w g k (nS most s).2 w' :=
 Pa.tape_any h hs (by omega)
theorem tapeS_txt {w : World} {g : Nat} {k : Option Nat} {s : St} {most : Int} (h : TapeS w g k s) (hs : Tp.Sml s.1) (hn : s.1.length ≤ 80000000) :
   Calls Tryz.prog 132 #[.pointer (some ⟨g, 0, none⟩), .int .i64 most] w fun e w' => e = .returned (.string (Tp.str (tS most s).1)) ∧ GotS w g k (tS most s).2 w' := by
 obtain ⟨l, ok⟩ := s
 rcases h with ⟨h1, h2⟩ | ⟨h1, T, x, h2⟩
 · simp only at h1
   subst h1
   refine (Tp.tape_text h2 hs (Nat.le_trans hn (by omega))).mono ?_
   rintro e w' ⟨hk, ⟨s, r, hl, hle, rfl, ht⟩ | ⟨hno, rfl, T, x, ht⟩⟩
   · have hsl : s.length < 9223372036854775808 := by
      have := congrArg List.length hl
      simp only [List.length_append] at this
      simp only at hn
      omega
     rw [tS_some hl hle hsl]
     exact ⟨rfl, .inl ⟨rfl, ht⟩, hk⟩
   · rw [tS_none hno]
     exact ⟨rfl, .inr ⟨rfl, T, x, ht⟩, hk⟩
 · simp only at h1
   subst h1
   refine (Tp.tape_text_fault h2).mono ?_
   rintro e w' ⟨rfl, rfl⟩
   exact ⟨rfl, .inr ⟨rfl, T, x, h2⟩, Tp.Kp.refl _ _⟩
set_option maxRecDepth 100000 in
theorem tapeS_flag {w : World} {g : Nat} {k : Option Nat} {s : St} (h : TapeS w g k s) (hs : Tp.Sml s.1) (hn : s.1.length ≤ 80000000) :
   Calls Tryz.prog 172 #[.pointer (some ⟨g, 0, none⟩)] w fun e w' => e = .returned (.bool (flagS s).1) ∧ GotS w g k (flagS s).2 w' := by
 have H := Lib.hid (tapeS_num (most := 1) h hs hn)
 have e1 : (flagS s).2 = (nS 1 s).2 := rfl
 have e2 : (flagS s).1 = decide ((nS 1 s).1 = 1) := rfl
 rw [e1, e2]
 obtain ⟨z, hz⟩ : ∃ z, z = (nS 1 s).1 := ⟨_, rfl⟩
 rw [← hz] at H
 rw [← hz]
 clear h hs e1 e2 hz
 by_cases h1 : z = 1
 · have q : (z == 1) = true := by simpa using h1
   have HD : Hid (decide (z = 1) = true) := decide_eq_true h1
   clear h1
   go_enter Tryz.func172, Tryz.ntmps172
   go_wp2_with fail
   refine H.out.mono ?_
   rintro e w1 ⟨rfl, h2⟩
   go_wp2_with fail
   go_ret
   exact ⟨by rw [HD.out] <;> rfl, h2⟩
 · have q : (z == 1) = false := by simpa using h1
   have HD : Hid (decide (z = 1) = false) := decide_eq_false h1
   clear h1
   go_enter Tryz.func172, Tryz.ntmps172
   go_wp2_with fail
   refine H.out.mono ?_
   rintro e w1 ⟨rfl, h2⟩
   go_wp2_with fail
   go_ret
   exact ⟨by rw [HD.out] <;> rfl, h2⟩
theorem tapeS_err {w : World} {g : Nat} {k : Option Nat} {s : St} (h : TapeS w g k s) : Calls Tryz.prog 126 #[.pointer (some ⟨g, 0, none⟩)] w fun e w' => ((s.2 = true ∧ e = .returned .nilIface) ∨ (s.2 = false ∧ ∃ T x, e = .returned (.iface T x))) ∧ w = w' := by
 rcases h with ⟨h1, h2⟩ | ⟨h1, T, x, h2⟩
 · exact (Tp.tape_err h2).mono fun e w' ⟨a, b⟩ => ⟨.inl ⟨h1, a⟩, b⟩
 · exact (Tp.tape_err h2).mono fun e w' ⟨a, b⟩ => ⟨.inr ⟨h1, T, x, a⟩, b⟩
theorem tS_len {most : Int} (hm : 0 ≤ most) (s : St) : ((tS most s).1.length : Int) ≤ most := by
 unfold tS
 split
 · split
   · rename_i x hx
     exact (txtAt_spec hx).2.1
   · simpa using hm
 · simpa using hm
theorem tS_sml {s : St} (hs : Tp.Sml s.1) (most : Int) : Tp.Sml (tS most s).1 := by
 unfold tS
 split
 · split
   · rename_i x hx
     exact fun c hc => hs c (by rw [(txtAt_spec hx).1]; exact List.mem_append_right _ (List.mem_append_left _ hc))
   · exact fun c hc => by cases hc
 · exact fun c hc => by cases hc
theorem nS_nat {most : Int} (hm : 0 ≤ most) (s : St) : ∃ N : Nat, (nS most s).1 = (N : Int) ∧ N = (nS most s).1.toNat ∧ (N : Int) ≤ most := by
 have h : 0 ≤ (nS most s).1 ∧ (nS most s).1 ≤ most := Pa.numStep_reach _ _ hm
 exact ⟨(nS most s).1.toNat, by omega, rfl, by omega⟩
theorem many_all {α : Type} {f : St → α × St} {P : α → Prop} {s : St} (h : ∀ m, P (f (many f m s).2).1) : ∀ n, ∀ x ∈ (many f n s).1, P x
 | 0 => fun x hx => by cases hx
 | n + 1 => fun x hx => by
  rw [many] at hx
  rcases List.mem_append.1 hx with hx | hx
  · exact many_all h n x hx
  · simp at hx; subst hx; exact h n
def okL (s : St) : Prop := (labS s).2.2 = true ∧ RightL (labS s).1
noncomputable instance (s : St) : Decidable (okL s) := inferInstanceAs (Decidable (_ ∧ _))
def LgRel (w : World) (g : Nat) (kk : Option Nat) (s : St) (N k : Nat) (v i : Value) (wr : World) : Prop :=
 ∃ m, m + k = N ∧ i = .int .i64 (m : Int) ∧ TapeS wr g kk (many entS m (nS 8 s).2).2 ∧ EntRow wr w.heap.size v (many entS m (nS 8 s).2).1 ∧ Tp.Kp (fun b => b = g) w wr
set_option maxRecDepth 100000 in
set_option maxHeartbeats 1000000 in
theorem labelGet_any {w : World} {g : Nat} {k : Option Nat} {s : St} (he : Env w) (hg8 : 8 ≤ g) (ht : TapeS w g k s) (hs : Tp.Sml s.1) (hn : s.1.length ≤ 80000000) :
  Calls Tryz.prog 130 #[.pointer (some ⟨g, 0, none⟩)] w fun e w' => GotS w g k (labS s).2 w' ∧ ((okL s ∧ ∃ v, e = .returned (.tuple #[v, .int .i64 0]) ∧ EntRow w' w.heap.size v (labS s).1) ∨ (¬ okL s ∧ e = .returned (.tuple #[.slice none 0 0, .int .i64 10]))) := by
 have hglt := ht.lt
 have HKL := Lib.hid ht.row_lt
 have HE := Lib.hid he
 obtain ⟨N, hN, hN2, hN8⟩ := nS_nat (most := 8) (by omega) s
 have HLS : Hid (labS s = many entS N (nS 8 s).2) := by unfold Hid labS cntS; rw [← hN2]
 have H90 := tapeS_num (most := 8) ht hs hn
 rw [hN] at H90
 have H90 := Lib.hid H90
 have hs1 : Tp.Sml (nS 8 s).2.1 ∧ (nS 8 s).2.1.length ≤ 80000000 := ⟨(nS_reads (by omega)).sml hs, Nat.le_trans ((nS_reads (by omega)).len s) hn⟩
 have HS1 := Lib.hid hs1
 have HM : Hid (∀ m, Tp.Sml (many entS m (nS 8 s).2).2.1 ∧ (many entS m (nS 8 s).2).2.1.length ≤ 80000000) := fun m => by
  have := many_sml entS_reads hs1.1 m
  exact ⟨this.1, Nat.le_trans this.2 hs1.2⟩
 have HX : Hid (∀ m, ∀ x ∈ (many entS m (nS 8 s).2).1, x.1.length ≤ 80) := fun m => many_all (P := fun x : Ent => x.1.length ≤ 80) (fun m => by
  show (cat (tS 80 _).1).length ≤ 80
  rw [catl_len]
  have := tS_len (most := 80) (by omega) (many entS m (nS 8 s).2).2
  omega) m
 obtain ⟨s1, hs1e⟩ : ∃ x, x = (nS 8 s).2 := ⟨_, rfl⟩
 have HS1E := Lib.hid hs1e
 rw [← hs1e] at HLS H90 HM HX HS1
 clear he ht hs hn hN hN2 hs1 hs1e
 go_enter Tryz.func130, Tryz.ntmps130
 go_wp2_with fail
 refine H90.out.mono ?_
 rintro e w1 ⟨rfl, ht1, hk1⟩
 have T1 := Lib.hid ht1
 have K1 := Lib.hid hk1
 clear ht1 hk1 H90
 go_wp2_with fail
 go_loopg [4, 8] N (fun c v i wr => LgRel w g k s N c v i wr)
 case atStart => exact ⟨0, by simp, rfl, by rw [← HS1E.out]; exact T1.out, World.ownsRow_nil _ _ _ _, K1.out⟩
 case round =>
  obtain ⟨m, hmk, hi, htp, hrow, hkp⟩ := hrel
  subst hi
  rw [← HS1E.out] at htp hrow
  have HT := Lib.hid htp
  have HROW := Lib.hid hrow
  have HK := Lib.hid hkp
  have hsz := hkp.size
  cases gk with
  | zero =>
   have hmn : m = N := by omega
   subst hmn
   rw [← HLS.out] at htp hrow HT HROW
   obtain ⟨A4, c4, hv4, hc4, hents⟩ := hrow.ents
   have hB : Below 8 w wr := hkp.below HE.out.1 (fun j hj => by rw [hj]; exact hg8)
   have hln : (labS s).1.length = m := by rw [HLS.out]; exact many_len _ _ _
   have H14 := Lib.hid (labelRight_any (c := c4) (HE.out.below hB (Nat.le_refl _)) hents (fun e he => by have := HX.out m e (by rw [← HLS.out]; exact he); omega) (by rw [hln]; unfold maxLen; omega))
   have H126 := Lib.hid (tapeS_err htp)
   have hge : ¬ m < m := by omega
   have HOK : Hid (okL s ↔ (labS s).2.2 = true ∧ RightL (labS s).1) := Iff.rfl
   subst hv4
   clear hrow hkp htp hB hents hln hc4
   rcases hok : (labS s).2.2 with _ | _
   · have HNO : Hid (¬ okL s) := fun h => by have := (HOK.out.1 h).1; rw [hok] at this; cases this
     have J : Hid (Calls Tryz.prog 126 #[.pointer (some ⟨g, 0, none⟩)] wr fun e w' => (∃ T x, e = .returned (.iface T x)) ∧ wr = w') := H126.out.mono fun e w' ⟨h, hw⟩ => ⟨(by
       rcases h with ⟨h1, _⟩ | ⟨_, h2⟩
       · rw [hok] at h1; cases h1
       · exact h2), hw⟩
     clear hok
     go_wp2_with (first | (go_at_call 126; refine J.out.mono ?_; rintro e w' ⟨⟨T, x, rfl⟩, rfl⟩))
     go_ret2
     exact ⟨⟨HT.out, HK.out⟩, .inr ⟨HNO.out, rfl⟩⟩
   · have J : Hid (Calls Tryz.prog 126 #[.pointer (some ⟨g, 0, none⟩)] wr fun e w' => e = .returned .nilIface ∧ wr = w') := H126.out.mono fun e w' ⟨h, hw⟩ => ⟨(by
       rcases h with ⟨_, h1⟩ | ⟨h2, _⟩
       · exact h1
       · rw [hok] at h2; cases h2), hw⟩
     by_cases hr : RightL (labS s).1
     · rw [decide_eq_true hr] at H14
       have HYES : Hid (okL s) := HOK.out.2 ⟨hok, hr⟩
       clear hok hr
       go_wp2_with (first
         | (go_at_call 58; refine H14.out.mono ?_; rintro e w2 ⟨rfl, hb2⟩)
         | (go_at_call 126; refine J.out.mono ?_; rintro e w' ⟨rfl, rfl⟩))
       go_ret2
       exact ⟨⟨HT.out.on hb2, HK.out.andThen (Tp.Kp.of_below hb2 _) fun _ _ h => h⟩, .inl ⟨HYES.out, _, rfl, own_on HROW.out hb2⟩⟩
     · rw [decide_eq_false hr] at H14
       have HNO : Hid (¬ okL s) := fun h => hr (HOK.out.1 h).2
       clear hok hr
       go_wp2_with (first
         | (go_at_call 58; refine H14.out.mono ?_; rintro e w2 ⟨rfl, hb2⟩)
         | (go_at_call 126; refine J.out.mono ?_; rintro e w' ⟨rfl, rfl⟩))
       go_ret2
       exact ⟨⟨HT.out.on hb2, HK.out.andThen (Tp.Kp.of_below hb2 _) fun _ _ h => h⟩, .inr ⟨HNO.out, rfl⟩⟩
  | succ j =>
   have hm : m < N := by omega
   obtain ⟨hsm, hln⟩ := HM.out m
   have H132 := tapeS_txt (most := 80) htp hsm hln
   rw [cat_str (tS_sml hsm 80)] at H132
   have H132 := Lib.hid H132
   have hsm2 : Tp.Sml (tS 80 (many entS m s1).2).2.1 ∧ (tS 80 (many entS m s1).2).2.1.length ≤ 80000000 := ⟨(tS_reads (by omega)).sml hsm, Nat.le_trans ((tS_reads (by omega)).len _) hln⟩
   have HS2 := Lib.hid hsm2
   have hml := many_len entS s1 m
   have HMANY : Hid (many entS (m + 1) s1 = ((many entS m s1).1 ++ [(cat (tS 80 (many entS m s1).2).1, (nS 3 (tS 80 (many entS m s1).2).2).1)], (nS 3 (tS 80 (many entS m s1).2).2).2)) := rfl
   obtain ⟨st, hst⟩ : ∃ st, st = many entS m s1 := ⟨_, rfl⟩
   obtain ⟨t, htt⟩ : ∃ t, t = cat (tS 80 st.2).1 := ⟨_, rfl⟩
   obtain ⟨u, hu⟩ : ∃ u, u = (tS 80 st.2).2 := ⟨_, rfl⟩
   obtain ⟨z, hz⟩ : ∃ z, z = (nS 3 u).1 := ⟨_, rfl⟩
   rw [← hst] at H132 HS2 HMANY HROW hml
   rw [← htt, ← hu] at H132 HMANY
   rw [← hu] at HS2
   rw [← hz] at HMANY
   have HMK := Lib.hid hmk
   have HZ := Lib.hid hz
   have hle : st.1.length + [(t, z)].length ≤ 100000001 := by simp; omega
   clear htp hrow hkp hmk hsm hln hsm2 hst htt hu hz hml
   go_wp2_with fail
   refine H132.out.mono ?_
   rintro e w2 ⟨rfl, ht2, hk2⟩
   have K2 : Hid (Tp.Kp (fun b => b = g) w w2) := HK.out.andThen hk2 (fun _ _ h => h)
   have R2 : Hid (EntRow w2 w.heap.size _ st.1) := own_kp HROW.out hk2 (fun j hj e => by have := (own_block HROW.out hj).1; omega)
   have H90b := tapeS_num (most := 3) ht2 HS2.out.1 HS2.out.2
   rw [← HZ.out] at H90b
   have H90b := Lib.hid H90b
   clear hk2 ht2 H132
   go_wp2_with fail
   refine H90b.out.mono ?_
   rintro e w3 ⟨rfl, ht3, hk3⟩
   have K3 : Hid (Tp.Kp (fun b => b = g) w w3) := K2.out.andThen hk3 (fun _ _ h => h)
   have R3 : Hid (EntRow w3 w.heap.size _ st.1) := own_kp R2.out hk3 (fun j hj e => by have := (own_block R2.out hj).1; omega)
   have T3 := Lib.hid ht3
   have hs3 := K3.out.size
   have hbase : w.heap.size ≤ (w3.alloc (.cells #[.string (str t), .int .i64 z] 42)).heap.size := by simp; omega
   have hg3 := ht3.lt
   clear hk3 ht3 H90b
   go_wp2_with (first
     | (at_builtin; refine wpList_append_ents rfl _ _ 23 Tryz.underlying23 rfl w.heap.size _ _ rfl (World.ownsRow.alloc R3.out _) (w3.heap.size + 1) (some ⟨w3.heap.size, 0, none⟩) 1 [(t, z)] rfl (ents_one _ _ _) (fun h => by cases h) hle hbase ?_))
   intro v' w4 hown hb4
   have R4 := Lib.hid hown
   have hall : Below w.heap.size w3 w4 := ((Below.refl _ _).alloc hs3 _).trans hb4
   have K4 : Hid (Tp.Kp (fun b => b = g) w w4) := ⟨hall.os.trans K3.out.os, hall.tape.trans K3.out.tape, hall.output.trans K3.out.output, Nat.le_trans K3.out.size hall.size, fun j hj hne => (hall.block j hj).trans (K3.out.block j hj hne)⟩
   have T4 := Lib.hid (T3.out.kp (S := fun j => w.heap.size ≤ j) ⟨hall.os, hall.tape, hall.output, hall.size, fun j _ hne => hall.block j (by omega)⟩ (by omega) (fun j hj => by have := HKL.out j hj; omega))
   clear hown hb4 hall
   go_wp2_with fail
   go_roundg j
   case measure => omega
   case rel => exact ⟨m + 1, by have := HMK.out; omega, by go_num, by rw [← HS1E.out, HMANY.out]; exact T4.out, by rw [← HS1E.out, HMANY.out]; exact R4.out, K4.out⟩
end Go.Proofs.YtgcbfggoddkhnaaGreatDoor
namespace Go.Proofs.YtgcbfggoddkhnaaGreatDoor
open Go.RowKit
theorem row_sl {w : World} {B : Nat} {v : Value} {l : List (List UInt8)} (h : StrRow w B v l) (hx : ∀ x ∈ l, x.length ≤ 140737488351232) (hn : l.length ≤ 1000000) : ∃ A c, v = .slice A l.length c ∧ SL w A c l := by
 obtain ⟨A, c, hv, hs⟩ := h.strs
 refine ⟨A, c, hv, hs, fun hA => ?_, hx, by omega⟩
 have h0 : w.ownsRow B 9 1 v l.length (strCellsOf l) := h
 rcases h0.2 with ⟨h2, he⟩ | ⟨g, cap, cur, hv2, _⟩
 · rw [h2] at hv
   injection hv with _ _ h3
   exact h3.symm
 · rw [hv2, hA] at hv
   injection hv with h3
   cases h3
def okO (s : St) : Prop := (ownS s).2.2 = true ∧ OwnL (ownS s).1
noncomputable instance (s : St) : Decidable (okO s) := inferInstanceAs (Decidable (_ ∧ _))
def OgRel (w : World) (g : Nat) (kk : Option Nat) (s : St) (N k : Nat) (v i : Value) (wr : World) : Prop :=
 ∃ m, m + k = N ∧ i = .int .i64 (m : Int) ∧ TapeS wr g kk (many ctS m (nS 8 s).2).2 ∧ StrRow wr w.heap.size v (many ctS m (nS 8 s).2).1 ∧ Tp.Kp (fun b => b = g) w wr
set_option maxRecDepth 100000 in
set_option maxHeartbeats 1000000 in
theorem ownsGet_any {w : World} {g : Nat} {k : Option Nat} {s : St} (he : Env w) (hg8 : 8 ≤ g) (ht : TapeS w g k s) (hs : Tp.Sml s.1) (hn : s.1.length ≤ 80000000) :
  Calls Tryz.prog 133 #[.pointer (some ⟨g, 0, none⟩)] w fun e w' => GotS w g k (ownS s).2 w' ∧ ((okO s ∧ ∃ v, e = .returned (.tuple #[v, .int .i64 0]) ∧ StrRow w' w.heap.size v (ownS s).1) ∨ (¬ okO s ∧ e = .returned (.tuple #[.slice none 0 0, .int .i64 10]))) := by
 have hglt := ht.lt
 have HKL := Lib.hid ht.row_lt
 have HE := Lib.hid he
 obtain ⟨N, hN, hN2, hN8⟩ := nS_nat (most := 8) (by omega) s
 have HLS : Hid (ownS s = many ctS N (nS 8 s).2) := by unfold Hid ownS cntS; rw [← hN2]
 have H90 := tapeS_num (most := 8) ht hs hn
 rw [hN] at H90
 have H90 := Lib.hid H90
 have hs1 : Tp.Sml (nS 8 s).2.1 ∧ (nS 8 s).2.1.length ≤ 80000000 := ⟨(nS_reads (by omega)).sml hs, Nat.le_trans ((nS_reads (by omega)).len s) hn⟩
 have HS1 := Lib.hid hs1
 have HM : Hid (∀ m, Tp.Sml (many ctS m (nS 8 s).2).2.1 ∧ (many ctS m (nS 8 s).2).2.1.length ≤ 80000000) := fun m => by
  have := many_sml ctS_reads hs1.1 m
  exact ⟨this.1, Nat.le_trans this.2 hs1.2⟩
 have HX : Hid (∀ m, ∀ x ∈ (many ctS m (nS 8 s).2).1, x.length ≤ 80) := fun m => many_all (P := fun x : List UInt8 => x.length ≤ 80) (fun m => by
  show (cat (tS 80 _).1).length ≤ 80
  rw [catl_len]
  have := tS_len (most := 80) (by omega) (many ctS m (nS 8 s).2).2
  omega) m
 obtain ⟨s1, hs1e⟩ : ∃ x, x = (nS 8 s).2 := ⟨_, rfl⟩
 have HS1E := Lib.hid hs1e
 rw [← hs1e] at HLS H90 HM HX HS1
 clear he ht hs hn hN hN2 hs1 hs1e
 go_enter Tryz.func133, Tryz.ntmps133
 go_wp2_with fail
 refine H90.out.mono ?_
 rintro e w1 ⟨rfl, ht1, hk1⟩
 have T1 := Lib.hid ht1
 have K1 := Lib.hid hk1
 clear ht1 hk1 H90
 go_wp2_with fail
 go_loopg [4, 7] N (fun c v i wr => OgRel w g k s N c v i wr)
 case atStart => exact ⟨0, by simp, rfl, by rw [← HS1E.out]; exact T1.out, World.ownsRow_nil _ _ _ _, K1.out⟩
 case round =>
  obtain ⟨m, hmk, hi, htp, hrow, hkp⟩ := hrel
  subst hi
  rw [← HS1E.out] at htp hrow
  have HT := Lib.hid htp
  have HROW := Lib.hid hrow
  have HK := Lib.hid hkp
  have hsz := hkp.size
  cases gk with
  | zero =>
   have hmn : m = N := by omega
   subst hmn
   rw [← HLS.out] at htp hrow HT HROW
   have hln : (ownS s).1.length = m := by rw [HLS.out]; exact many_len _ _ _
   obtain ⟨A4, c4, hv4, hsl⟩ := row_sl hrow (fun e he => by have := HX.out m e (by rw [← HLS.out]; exact he); omega) (by omega)
   have hB : Below 8 w wr := hkp.below HE.out.1 (fun j hj => by rw [hj]; exact hg8)
   have H14 := Lib.hid (ownRight_any (c := c4) (HE.out.below hB (Nat.le_refl _)) hsl)
   have H126 := Lib.hid (tapeS_err htp)
   have hge : ¬ m < m := by omega
   have HOK : Hid (okO s ↔ (ownS s).2.2 = true ∧ OwnL (ownS s).1) := Iff.rfl
   subst hv4
   clear hrow hkp htp hB hsl hln
   rcases hok : (ownS s).2.2 with _ | _
   · have HNO : Hid (¬ okO s) := fun h => by have := (HOK.out.1 h).1; rw [hok] at this; cases this
     have J : Hid (Calls Tryz.prog 126 #[.pointer (some ⟨g, 0, none⟩)] wr fun e w' => (∃ T x, e = .returned (.iface T x)) ∧ wr = w') := H126.out.mono fun e w' ⟨h, hw⟩ => ⟨(by
       rcases h with ⟨h1, _⟩ | ⟨_, h2⟩
       · rw [hok] at h1; cases h1
       · exact h2), hw⟩
     clear hok
     go_wp2_with (first | (go_at_call 126; refine J.out.mono ?_; rintro e w' ⟨⟨T, x, rfl⟩, rfl⟩))
     go_ret2
     exact ⟨⟨HT.out, HK.out⟩, .inr ⟨HNO.out, rfl⟩⟩
   · have J : Hid (Calls Tryz.prog 126 #[.pointer (some ⟨g, 0, none⟩)] wr fun e w' => e = .returned .nilIface ∧ wr = w') := H126.out.mono fun e w' ⟨h, hw⟩ => ⟨(by
       rcases h with ⟨_, h1⟩ | ⟨h2, _⟩
       · exact h1
       · rw [hok] at h2; cases h2), hw⟩
     by_cases hr : OwnL (ownS s).1
     · rw [decide_eq_true hr] at H14
       have HYES : Hid (okO s) := HOK.out.2 ⟨hok, hr⟩
       clear hok hr
       go_wp2_with (first
         | (go_at_call 61; refine H14.out.mono ?_; rintro e w2 ⟨rfl, hb2⟩)
         | (go_at_call 126; refine J.out.mono ?_; rintro e w' ⟨rfl, rfl⟩))
       go_ret2
       exact ⟨⟨HT.out.on hb2, HK.out.andThen (Tp.Kp.of_below hb2 _) fun _ _ h => h⟩, .inl ⟨HYES.out, _, rfl, own_on (show wr.ownsRow w.heap.size 9 1 _ _ _ from HROW.out) hb2⟩⟩
     · rw [decide_eq_false hr] at H14
       have HNO : Hid (¬ okO s) := fun h => hr (HOK.out.1 h).2
       clear hok hr
       go_wp2_with (first
         | (go_at_call 61; refine H14.out.mono ?_; rintro e w2 ⟨rfl, hb2⟩)
         | (go_at_call 126; refine J.out.mono ?_; rintro e w' ⟨rfl, rfl⟩))
       go_ret2
       exact ⟨⟨HT.out.on hb2, HK.out.andThen (Tp.Kp.of_below hb2 _) fun _ _ h => h⟩, .inr ⟨HNO.out, rfl⟩⟩
  | succ j =>
   have hm : m < N := by omega
   obtain ⟨hsm, hln⟩ := HM.out m
   have H132 := tapeS_txt (most := 80) htp hsm hln
   rw [cat_str (tS_sml hsm 80)] at H132
   have H132 := Lib.hid H132
   have hml := many_len ctS s1 m
   have HMANY : Hid (many ctS (m + 1) s1 = ((many ctS m s1).1 ++ [cat (tS 80 (many ctS m s1).2).1], (tS 80 (many ctS m s1).2).2)) := rfl
   obtain ⟨st, hst⟩ : ∃ st, st = many ctS m s1 := ⟨_, rfl⟩
   obtain ⟨t, htt⟩ : ∃ t, t = cat (tS 80 st.2).1 := ⟨_, rfl⟩
   rw [← hst] at H132 HMANY HROW hml
   rw [← htt] at H132 HMANY
   have HMK := Lib.hid hmk
   have hle : st.1.length + 1 ≤ 100000001 := by omega
   clear htp hrow hkp hmk hsm hln hst htt hml
   go_wp2_with fail
   refine H132.out.mono ?_
   rintro e w3 ⟨rfl, ht3, hk3⟩
   have K3 : Hid (Tp.Kp (fun b => b = g) w w3) := HK.out.andThen hk3 (fun _ _ h => h)
   have R3 : Hid (StrRow w3 w.heap.size _ st.1) := own_kp (show wr.ownsRow w.heap.size 9 1 _ _ _ from HROW.out) hk3 (fun j hj e => by have := (own_block (show wr.ownsRow w.heap.size 9 1 _ _ _ from HROW.out) hj).1; omega)
   have T3 := Lib.hid ht3
   have hs3 := K3.out.size
   have hbase : w.heap.size ≤ (w3.alloc (.cells #[.string (str t)] 9)).heap.size := by simp; omega
   have hg3 := ht3.lt
   clear hk3 ht3 H132
   go_wp2_with (first
     | (at_builtin; refine wpList_append_one rfl _ _ rfl w.heap.size _ st.1 rfl (World.ownsRow.alloc R3.out _) ⟨w3.heap.size, 0, none⟩ t rfl (cell_one_new _ _ _) hle hbase ?_))
   intro v' w4 hown hb4
   have R4 := Lib.hid hown
   have hall : Below w.heap.size w3 w4 := ((Below.refl _ _).alloc hs3 _).trans hb4
   have K4 : Hid (Tp.Kp (fun b => b = g) w w4) := ⟨hall.os.trans K3.out.os, hall.tape.trans K3.out.tape, hall.output.trans K3.out.output, Nat.le_trans K3.out.size hall.size, fun j hj hne => (hall.block j hj).trans (K3.out.block j hj hne)⟩
   have T4 := Lib.hid (T3.out.kp (S := fun j => w.heap.size ≤ j) ⟨hall.os, hall.tape, hall.output, hall.size, fun j _ hne => hall.block j (by omega)⟩ (by omega) (fun j hj => by have := HKL.out j hj; omega))
   clear hown hb4 hall
   go_wp2_with fail
   go_roundg j
   case measure => omega
   case rel => exact ⟨m + 1, by have := HMK.out; omega, by go_num, by rw [← HS1E.out, HMANY.out]; exact T4.out, by rw [← HS1E.out, HMANY.out]; exact R4.out, K4.out⟩
set_option maxRecDepth 100000 in
set_option maxHeartbeats 1000000 in
theorem pathGet_any {w : World} {g : Nat} {k : Option Nat} {s : St} (ht : TapeS w g k s) (hs : Tp.Sml s.1) (hn : s.1.length ≤ 80000000) :
   Calls Tryz.prog 129 #[.pointer (some ⟨g, 0, none⟩)] w fun e w' => GotS w g k (pathS s).2 w' ∧ (((pathS s).2.2 = true ∧ ∃ v, e = .returned (.tuple #[v, .int .i64 0]) ∧ Pa.ZRow w' w.heap.size v (pathS s).1) ∨ ((pathS s).2.2 = false ∧ e = .returned (.tuple #[.slice none 0 0, .int .i64 10]))) := by
 obtain ⟨l, ok⟩ := s
 rcases id ht with ⟨h1, h2⟩ | ⟨h1, T, x, h2⟩
 · simp only at h1
   subst h1
   refine (Pa.get_any h2 hs (Nat.le_trans hn (by omega))).mono ?_
   rintro e w' ⟨hk, ht', hr⟩
   unfold Pa.RetGet at hr
   rw [pathS_rd] at ht' hr
   exact ⟨⟨ht', hk⟩, hr⟩
 · simp only at h1
   subst h1
   have H90 := Lib.hid (tapeS_num (most := 6) ht hs hn)
   have H126 := Lib.hid (Tp.tape_err h2)
   have e0 : (nS 6 (l, false)) = (0, l, false) := rfl
   rw [e0] at H90
   have HP : Hid (pathS (l, false) = ([], l, false)) := pathS_no l
   clear ht hs e0
   go_enter Tryz.func129, Tryz.ntmps129
   go_wp2_with fail
   refine H90.out.mono ?_
   rintro e w1 ⟨rfl, ht1, hk1⟩
   have T1 := Lib.hid ht1
   have K1 := Lib.hid hk1
   rcases ht1 with ⟨h3, _⟩ | ⟨_, T1', x1, h4⟩
   · cases h3
   have H126 := Lib.hid (Tp.tape_err h4)
   clear hk1 h4 H90 h2
   go_wp2_with fail
   go_loopg [4, 7] 0 (fun c v i wr => c = 0 ∧ v = .slice none 0 0 ∧ i = .int .i64 0 ∧ wr = w1)
   case atStart => exact ⟨rfl, rfl, rfl, rfl⟩
   case round =>
     obtain ⟨rfl, rfl, rfl, hw⟩ := hrel
     subst hw
     go_wp2_with (first | (go_at_call 126; refine H126.out.mono ?_; rintro e w' ⟨rfl, rfl⟩))
     go_ret2
     rw [HP.out]
     exact ⟨⟨T1.out, K1.out⟩, .inr ⟨rfl, rfl⟩⟩
end Go.Proofs.YtgcbfggoddkhnaaGreatDoor
namespace Go.Proofs.YtgcbfggoddkhnaaGreatDoor
open Go.RowKit
def EqRel (w : World) (l l' : List Kd) (k : Nat) (i : Value) (wr : World) : Prop := ∃ m, m + k = l.length ∧ i = .int .i64 (m : Int) ∧ l.take m = l'.take m ∧ Below w.heap.size w wr
end Go.Proofs.YtgcbfggoddkhnaaGreatDoor
namespace Go.Proofs.YtgcbfggoddkhnaaGreatDoor.Pa
open Go.RowKit
theorem Tryz.size3 : ∀ w, (Go.sizeOf 3).run Tryz.prog w = .ok 1 w := fun _ => by kernel_rfl
theorem Tryz.elem43 : Tryz.prog.elem 43 = 3 := by kernel_rfl
theorem Tryz.under43 : Tryz.prog.underlying 43 = some (.slice (Tryz.prog.elem 43)) := by kernel_rfl
theorem slice_to22 (a : Addr) (L n c : Nat) (hc : n ≤ c) (W : World) : (Instr.slice 43 (.slice (some a) L c) none (some (.int .i64 (n : Int))) none).run Tryz.prog W = .ok (.slice (some a) n c) W := by
 rw [run_slice_h W 43 _ _ _ Tryz.under43 .i64 _ (by omega) (by omega), Tryz.elem43, Tryz.size3]
 simp [Result.andThen, sliced, Addr.add]
theorem Zs.take {w : World} {B : Nat} {A : Option Addr} {l : List Int} (h : Zs w B A l) (n : Nat) : Zs w B A (l.take n) := fun hp => by
 have hp' : 0 < l.length := by simp at hp; omega
 obtain ⟨b, o, hA, hlt, hc⟩ := h hp'
 refine ⟨b, o, hA, hlt, fun k x hk => hc k x ?_⟩
 rw [List.getElem?_take] at hk
 split at hk
 · exact hk
 · cases hk
def CmpRel (w : World) (p q : List Int) (k : Nat) (i : Value) (wr : World) : Prop :=
 ∃ m, m + k = p.length ∧ m ≤ q.length ∧ i = .int .i64 (m : Int) ∧ (∀ k x y, k < m → p[k]? = some x → q[k]? = some y → cmpI x y = 0) ∧ w = wr
set_option maxRecDepth 100000 in
theorem slicesCompare_any {w : World} {A1 A2 : Option Addr} {c1 c2 B : Nat} {p q : List Int} (h1 : Zs w B A1 p) (h2 : Zs w B A2 q) (hp : p.length ≤ 140737488351232) (hq : q.length ≤ 140737488351232) :
  Calls Tryz.prog 125 #[.slice A1 p.length c1, .slice A2 q.length c2] w fun e w' => e = .returned (.int .i64 (cmpZ p q)) ∧ w = w' := by
 have H1 := Lib.hid h1
 have H2 := Lib.hid h2
 clear h1 h2
 go_enter Tryz.func125, Tryz.ntmps125
 go_wp2_with fail
 go_loopg [11] p.length (fun k i wr => CmpRel w p q k i wr)
 case atStart => exact ⟨0, by simp, by simp, rfl, fun k x y hk => by omega, rfl⟩
 case round =>
  obtain ⟨m, hmk, hmq, hi, hall, hw⟩ := hrel
  subst hi hw
  have HL := Lib.hid (lex_drop m p q hall (by omega) hmq)
  have HA := Lib.hid hall
  clear hall
  cases gk with
  | zero =>
   have hmp : m = p.length := by omega
   subst hmp
   rw [List.drop_length] at HL
   by_cases hlt : p.length < q.length
   · have HV : Hid (cmpZ p q = -1) := by
       rw [Hid, cmpZ, ← HL.out]
       cases hd : q.drop p.length with
       | nil => rw [List.drop_eq_nil_iff] at hd; omega
       | cons a r => rfl
     go_wp2_with fail
     go_ret
     exact ⟨by rw [HV.out]; rfl, rfl⟩
   · have HV : Hid (cmpZ p q = 0) := by
       rw [Hid, cmpZ, ← HL.out, List.drop_eq_nil_of_le (by omega)]
       rfl
     go_wp2_with fail
     go_ret
     exact ⟨by rw [HV.out]; rfl, rfl⟩
  | succ j =>
   have hm : m < p.length := by omega
   obtain ⟨x, hx⟩ : ∃ x, p[m]? = some x := ⟨_, List.getElem?_eq_getElem hm⟩
   obtain ⟨b, o, rfl, hlt, hcells⟩ := H1.out (by omega)
   have cx := hcells m x hx
   have dx : p.drop m = x :: p.drop (m + 1) := by
     obtain ⟨h1, h2⟩ := List.getElem?_eq_some_iff.1 hx
     rw [← h2]
     exact List.drop_eq_getElem_cons h1
   have HM := Lib.hid hmk
   clear hmk hcells
   by_cases hge : q.length ≤ m
   · have HV : Hid (cmpZ p q = 1) := by
       rw [Hid, cmpZ, ← HL.out, dx, List.drop_eq_nil_of_le hge]
       rfl
     clear hx dx
     go_wp2_with fail
     go_ret
     exact ⟨by rw [HV.out]; rfl, rfl⟩
   · have hm2 : m < q.length := by omega
     obtain ⟨y, hy⟩ : ∃ y, q[m]? = some y := ⟨_, List.getElem?_eq_getElem hm2⟩
     obtain ⟨b2, o2, rfl, hlt2, hcells2⟩ := H2.out (by omega)
     have cy := hcells2 m y hy
     have dy : q.drop m = y :: q.drop (m + 1) := by
       obtain ⟨h1, h2⟩ := List.getElem?_eq_some_iff.1 hy
       rw [← h2]
       exact List.drop_eq_getElem_cons h1
     have H29 : Hid (Calls Tryz.prog 143 #[.int .i64 x, .int .i64 y] w fun e w' => e = .returned (.int .i64 (cmpI x y)) ∧ w' = w) := Tryz.cmp_Compare_int x y w
     by_cases hz : cmpI x y = 0
     · rw [hz] at H29
       have HA2 : Hid (∀ k x y, k < m + 1 → p[k]? = some x → q[k]? = some y → cmpI x y = 0) := fun k a b hk ha hb => by
        by_cases e : k = m
        · subst e
          rw [hx] at ha
          rw [hy] at hb
          cases ha
          cases hb
          exact hz
        · exact HA.out k a b (by omega) ha hb
       clear hz hx hy dx dy hcells2 hge
       go_wp2_with (go_at_call 143; refine H29.out.mono ?_; rintro e w' ⟨rfl, rfl⟩)
       go_roundg j
       case measure => omega
       case rel => exact ⟨m + 1, by have := HM.out; omega, by omega, by go_num, HA2.out, rfl⟩
     · have HV : Hid (cmpZ p q = cmpI x y) := by
        rw [Hid, cmpZ, ← HL.out, dx, dy]
        show (if cmpI x y = 0 then _ else _) = _
        rw [if_neg hz]
       obtain ⟨z, hze⟩ : ∃ z, z = cmpI x y := ⟨_, rfl⟩
       rw [← hze] at H29 HV hz
       have hz2 : (z != 0) = true := by simpa using hz
       clear hze hx hy dx dy hcells2 hge
       go_wp2_with (go_at_call 143; refine H29.out.mono ?_; rintro e w' ⟨rfl, rfl⟩)
       go_ret
       exact ⟨by rw [HV.out]; rfl, rfl⟩
set_option maxRecDepth 100000 in
theorem compare_any {w : World} {A1 A2 : Option Addr} {c1 c2 B : Nat} {p q : List Int} (h1 : Zs w B A1 p) (h2 : Zs w B A2 q) (hp : p.length ≤ 140737488351232) (hq : q.length ≤ 140737488351232) :
  Calls Tryz.prog 88 #[.slice A1 p.length c1, .slice A2 q.length c2] w fun e w' => e = .returned (.int .i64 (cmpZ p q)) ∧ w = w' := by
 have H := Lib.hid (slicesCompare_any (c1 := c1) (c2 := c2) h1 h2 hp hq)
 clear h1 h2
 go_enter Tryz.func88, Tryz.ntmps88
 go_wp2_with (go_at_call 125; refine H.out.mono ?_; rintro e w' ⟨rfl, rfl⟩)
 go_ret
 exact ⟨rfl, rfl⟩
def RcRel (w : World) (p q : List Int) (k : Nat) (i : Value) (wr : World) : Prop :=
 ∃ m, m + k = p.length ∧ m ≤ q.length ∧ i = .int .i64 (m : Int) ∧ (∀ k x y, k < m → p[k]? = some x → q[k]? = some y → cmpI x y = 0) ∧ Below w.heap.size w wr
set_option maxRecDepth 100000 in
set_option maxHeartbeats 1000000 in
theorem refCompare_any {w : World} {A1 A2 : Option Addr} {c1 c2 : Nat} {p q : List Int} (h1 : Zs w w.heap.size A1 p) (h2 : Zs w w.heap.size A2 q) (hp : p.length ≤ 100000000) (hq : q.length ≤ 100000000) :
  Calls Tryz.prog 96 #[.slice A1 p.length c1, .slice A2 q.length c2] w (RetB w (.int .i64 (cmpZ p q))) := by
 have H1 := Lib.hid h1
 have H2 := Lib.hid h2
 clear h1 h2
 go_enter Tryz.func96, Tryz.ntmps96
 go_wp2_with fail
 go_loopg [5] p.length (fun k i wr => RcRel w p q k i wr)
 case atStart => exact ⟨0, by simp, by simp, rfl, fun k x y hk => by omega, Below.refl _ _⟩
 case round =>
  obtain ⟨m, hmk, hmq, hi, hall, hb⟩ := hrel
  subst hi
  have HL := Lib.hid (lex_drop m p q hall (by omega) hmq)
  have HA := Lib.hid hall
  have HB := Lib.hid hb
  clear hall
  cases gk with
  | zero =>
   have hmp : m = p.length := by omega
   subst hmp
   rw [List.drop_length] at HL
   clear hb
   by_cases hlt : p.length < q.length
   · have HV : Hid (cmpZ p q = -1) := by
       rw [Hid, cmpZ, ← HL.out]
       cases hd : q.drop p.length with
       | nil => rw [List.drop_eq_nil_iff] at hd; omega
       | cons a r => rfl
     go_wp2_with fail
     go_ret
     exact ⟨by rw [HV.out]; rfl, HB.out⟩
   · have HV : Hid (cmpZ p q = 0) := by
       rw [Hid, cmpZ, ← HL.out, List.drop_eq_nil_of_le (by omega)]
       rfl
     go_wp2_with fail
     go_ret
     exact ⟨by rw [HV.out]; rfl, HB.out⟩
  | succ j =>
   have hm : m < p.length := by omega
   obtain ⟨x, hx⟩ : ∃ x, p[m]? = some x := ⟨_, List.getElem?_eq_getElem hm⟩
   obtain ⟨b, o, rfl, hlt, hcells⟩ := (H1.out.below hb) (by omega)
   have cx := hcells m x hx
   have dx : p.drop m = x :: p.drop (m + 1) := by
     obtain ⟨h1, h2⟩ := List.getElem?_eq_some_iff.1 hx
     rw [← h2]
     exact List.drop_eq_getElem_cons h1
   have HM := Lib.hid hmk
   clear hmk hcells
   by_cases hge : q.length ≤ m
   · have HV : Hid (cmpZ p q = 1) := by
       rw [Hid, cmpZ, ← HL.out, dx, List.drop_eq_nil_of_le hge]
       rfl
     clear hx dx hb
     go_wp2_with fail
     go_ret
     exact ⟨by rw [HV.out]; rfl, HB.out⟩
   · have hm2 : m < q.length := by omega
     obtain ⟨y, hy⟩ : ∃ y, q[m]? = some y := ⟨_, List.getElem?_eq_getElem hm2⟩
     obtain ⟨b2, o2, rfl, hlt2, hcells2⟩ := (H2.out.below hb) (by omega)
     have cy := hcells2 m y hy
     have dy : q.drop m = y :: q.drop (m + 1) := by
       obtain ⟨h1, h2⟩ := List.getElem?_eq_some_iff.1 hy
       rw [← h2]
       exact List.drop_eq_getElem_cons h1
     clear hcells2 hge hb
     by_cases h3 : x < y
     · have HV : Hid (cmpZ p q = -1) := by
         have e : cmpI x y = -1 := by unfold cmpI Lib.compareInt; rw [if_pos h3]
         rw [Hid, cmpZ, ← HL.out, dx, dy]
         show (if cmpI x y = 0 then _ else _) = _
         rw [e, if_neg (by decide)]
       clear hx hy dx dy
       go_wp2_with fail
       go_region
       go_wp2_with fail
       go_ret
       exact ⟨by rw [HV.out]; rfl, HB.out.drew⟩
     · by_cases h4 : y < x
       · have HV : Hid (cmpZ p q = 1) := by
          have e : cmpI x y = 1 := by unfold cmpI Lib.compareInt; rw [if_neg h3, if_pos h4]
          rw [Hid, cmpZ, ← HL.out, dx, dy]
          show (if cmpI x y = 0 then _ else _) = _
          rw [e, if_neg (by decide)]
         clear hx hy dx dy
         go_wp2_with fail
         go_region
         go_wp2_with fail
         go_region
         go_wp2_with fail
         go_ret
         exact ⟨by rw [HV.out]; rfl, HB.out.drew.drew⟩
       · have hz : cmpI x y = 0 := by unfold cmpI Lib.compareInt; rw [if_neg h3, if_neg h4]
         have HA2 : Hid (∀ k x y, k < m + 1 → p[k]? = some x → q[k]? = some y → cmpI x y = 0) := fun k a b hk ha hb => by
          by_cases e : k = m
          · subst e
            rw [hx] at ha
            rw [hy] at hb
            cases ha
            cases hb
            exact hz
          · exact HA.out k a b (by omega) ha hb
         clear hx hy dx dy hz
         go_wp2_with fail
         go_region
         go_wp2_with fail
         go_region
         go_wp2_with fail
         go_roundg j
         case measure => omega
         case rel => exact ⟨m + 1, by have := HM.out; omega, by omega, by go_num, HA2.out, HB.out.drew.drew⟩
end Go.Proofs.YtgcbfggoddkhnaaGreatDoor.Pa
namespace Go.Proofs.YtgcbfggoddkhnaaGreatDoor.Pa
open Go.RowKit
def RetPar (w : World) (l : List Int) (e : Ending) (w' : World) : Prop :=
 Below w.heap.size w w' ∧ ((l = [] ∧ e = .returned (.tuple #[.slice none 0 0, .int .i64 0, .bool false])) ∨
  ∃ ys z v, l = ys ++ [z] ∧ e = .returned (.tuple #[v, .int .i64 z, .bool true]) ∧ ZRow w' w.heap.size v ys)
set_option maxRecDepth 100000 in
set_option maxHeartbeats 1000000 in
theorem parent_any {w : World} {A : Option Addr} {c : Nat} {l : List Int} (h : PL w A c l) (hn : l.length ≤ 10000000) : Calls Tryz.prog 80 #[.slice A l.length c] w (RetPar w l) := by
 rcases List.eq_nil_or_concat l with hl | ⟨ys, z, hl⟩
 · subst hl
   clear h
   go_enter Tryz.func80, Tryz.ntmps80
   go_wp2_with fail
   go_ret3
   exact ⟨Below.refl _ _, .inl ⟨rfl, rfl⟩⟩
 · rw [List.concat_eq_append] at hl
   have hlen : l.length = ys.length + 1 := by rw [hl]; simp
   obtain ⟨b, o, hA, hb, hc⟩ := h.zs (by omega)
   subst hA
   have hz : l[ys.length]? = some z := by rw [hl]; simp
   have c1 := hc _ z hz
   have hcap := h.cap
   have hs := slice_to22 ⟨b, o, none⟩ l.length ys.length c (by omega)
   have hty : l.take ys.length = ys := by rw [hl]; simp
   have hzy : Zs w w.heap.size (some ⟨b, o, none⟩) ys := by
    have := h.zs.take ys.length
    rwa [hty] at this
   rw [hlen] at hs ⊢
   have HL := Lib.hid hl
   obtain ⟨n, hny⟩ : ∃ n, n = ys.length := ⟨_, rfl⟩
   have HC : Hid (∀ W, Below w.heap.size w W → Calls Tryz.prog 44 #[.slice (some ⟨b, o, none⟩) n c] W fun e w' => ∃ v, e = .returned v ∧ ZRow w' w.heap.size v ys ∧ Below w.heap.size w w') := fun W hW => by
    rw [hny]
    refine (cloneZ_any (c := c) ((hzy.below hW).more hW.size) (fun h => by cases h) (by omega)).mono ?_
    rintro e w' ⟨v, rfl, hr, hb2⟩
    refine ⟨v, rfl, ?_, hW.trans (hb2.mono hW.size)⟩
    have h0 : w'.ownsRow W.heap.size 3 1 v ys.length (zCellsOf ys) := hr
    obtain ⟨h1, h2⟩ := h0
    refine ⟨h1, ?_⟩
    rcases h2 with h2 | ⟨g, cap, cur, e, hbb, r⟩
    · exact .inl h2
    · exact .inr ⟨g, cap, cur, e, Nat.le_trans hW.size hbb, r⟩
   rw [← hny] at hs c1 ⊢
   have hnb : n ≤ 10000000 := by omega
   have hnc : n + 1 ≤ c := by omega
   have q1 : (n : Int) < (n : Int) + 1 := by omega
   have q0 : ((n : Int) + 1 == 0) = false := by rw [beq_eq_false_iff_ne]; omega
   clear h hc hz hlen hty hzy hl hny
   go_enter Tryz.func80, Tryz.ntmps80
   go_wp2_with fail
   go_region_held3 (fun W => W.cell? ⟨b, o + n, none⟩ = some (.int .i64 z))
    (first
      | go_keep
      | exact (hbA.cell (p := ⟨b, o + n, none⟩) hb).trans c1)
    (first
      | (go_at_call 44; refine (HC.out _ (Below.refl _ _).drew).mono ?_; rintro e w2 ⟨v, rfl, hrow, hbA⟩))
   have HR := Lib.hid hrow
   have HB := Lib.hid hbA
   clear hrow hbA
   go_wp2_with fail
   go_ret3
   exact ⟨HB.out, .inr ⟨ys, z, v, HL.out, rfl, HR.out⟩⟩
def RetChild (w : World) (l : List Int) (e : Ending) (w' : World) : Prop :=
 Below w.heap.size w w' ∧ ((PathOk l ∧ ∃ v, e = .returned (.tuple #[v, .bool true]) ∧ ZRow w' w.heap.size v l) ∨ (¬ PathOk l ∧ e = .returned (.tuple #[.slice none 0 0, .bool false])))
set_option maxRecDepth 100000 in
set_option maxHeartbeats 1000000 in
theorem child_any {w : World} {A : Option Addr} {c : Nat} {l : List Int} {n : Int} (h : PL w A c l) (hn : l.length ≤ 10000000) : Calls Tryz.prog 79 #[.slice A l.length c, .int .i64 n] w (RetChild w (l ++ [n])) := by
 obtain ⟨W0, hW0⟩ : ∃ W0, W0 = (w.alloc (.cells #[.int .i64 n] 3)).alloc (.cells #[.slice A l.length c, .slice (some ⟨w.heap.size, 0, none⟩) 1 1] 43) := ⟨_, rfl⟩
 have hB0 : Below w.heap.size w W0 := by rw [hW0]; exact ((Below.refl _ _).alloc (Nat.le_refl _) _).alloc (by simp) _
 have hs0 : W0.heap.size = w.heap.size + 1 + 1 := by rw [hW0]; simp
 have k1 : W0.cell? ⟨w.heap.size + 1, 0, none⟩ = some (.slice A l.length c) := by
   rw [hW0]
   simp
 have k2 : W0.cell? ⟨w.heap.size + 1, 0 + 1, none⟩ = some (.slice (some ⟨w.heap.size, 0, none⟩) [n].length 1) := by
   rw [hW0]
   simp
 have k3 : Zs W0 W0.heap.size (some ⟨w.heap.size, 0, none⟩) [n] := fun _ => ⟨w.heap.size, 0, rfl, by omega, fun k x hk => by
   cases k with
   | zero =>
     simp at hk
     subst hk
     rw [hW0]
     simp
   | succ k => simp at hk⟩
 have HC := concatZ_any k1 k2 (by omega) ((h.zs.below hB0).more hB0.size) k3 h.nil (fun h => by cases h) (by simp; omega)
 have HC := Lib.hid HC
 have HW := Lib.hid hW0
 have HB := Lib.hid hB0
 clear h k1 k2 k3 hs0 hW0 hB0
 go_enter Tryz.func79, Tryz.ntmps79
 go_wp2_with fail
 rw [← HW.out]
 refine HC.out.mono ?_
 rintro e w1 ⟨v, rfl, hrow, hb1⟩
 obtain ⟨A1, c1, rfl, hz1⟩ := hrow.zs
 have HR := Lib.hid (right_any (c := c1) hz1)
 have HB1 : Hid (Below w.heap.size w w1) := HB.out.trans (hb1.mono HB.out.size)
 have HRow : Hid (ZRow w1 w.heap.size (.slice A1 (l ++ [n]).length c1) (l ++ [n])) := by
   have h0 : w1.ownsRow W0.heap.size 3 1 _ (l ++ [n]).length (zCellsOf (l ++ [n])) := hrow
   obtain ⟨h1, h2⟩ := h0
   refine ⟨h1, ?_⟩
   rcases h2 with h2 | ⟨g, cap, cur, e, hbb, r⟩
   · exact .inl h2
   · exact .inr ⟨g, cap, cur, e, Nat.le_trans HB.out.size hbb, r⟩
 obtain ⟨L, hL⟩ : ∃ L, L = l ++ [n] := ⟨_, rfl⟩
 rw [← hL] at HR HRow ⊢
 have HLL := Lib.hid hL
 clear hrow hb1 hz1 HC HW hL
 by_cases hok : PathOk L
 · have hd : decide (PathOk L) = true := decide_eq_true hok
   rw [hd] at HR
   have HOK := Lib.hid hok
   clear hok hd
   go_wp2_with (go_at_call 106; refine HR.out.mono ?_; rintro e w' ⟨rfl, rfl⟩)
   go_ret2
   exact ⟨HB1.out, by rw [← HLL.out]; exact .inl ⟨HOK.out, _, rfl, HRow.out⟩⟩
 · have hd : decide (PathOk L) = false := decide_eq_false hok
   rw [hd] at HR
   have HOK := Lib.hid hok
   clear hok hd
   go_wp2_with (go_at_call 106; refine HR.out.mono ?_; rintro e w' ⟨rfl, rfl⟩)
   go_ret2
   exact ⟨HB1.out, by rw [← HLL.out]; exact .inr ⟨HOK.out, rfl⟩⟩
end Go.Proofs.YtgcbfggoddkhnaaGreatDoor.Pa
namespace Go.Proofs.YtgcbfggoddkhnaaGreatDoor
open Go.RowKit
def atP (T : TT) (p : List Int) : Option Ob := T (Pa.zText p)
theorem kidQ_ix {l : List Kd} {n z : Int} (h : IxOut l n z) : (z = -1 ∧ kidQ l n = -1) ∨ ∃ (m : Nat) (k : Kd), z = (m : Int) ∧ l[m]? = some k ∧ k.1 = n ∧ kidQ l n = k.2.2 := by
 rcases h with ⟨h1, h2⟩ | ⟨m, k, h1, h2, h3, h4⟩
 · exact .inl ⟨h1, kidQ_none h2⟩
 · exact .inr ⟨m, k, h1, h2, h3, kidQ_hit h2 h4 h3⟩
theorem quotaP_at (T : TT) (q : List Int) (n : Int) : quotaP (atP T) (q ++ [n]) = kidQ (atT T (Pa.zText q)).kids n := by
 rw [quotaP_snoc]
 unfold atP atT
 cases T (Pa.zText q) <;> rfl
theorem zrow_pl {w : World} {B : Nat} {v : Value} {zs us : List Int} {z : Int} (h : Pa.ZRow w B v zs) (hw : Pa.WideZ us) (hu : us = zs ++ [z]) : ∃ A c, v = .slice A zs.length c ∧ Pa.PL w A c zs :=
 h.pl fun x hx => hw x (by rw [hu]; exact List.mem_append_left _ hx)
set_option maxRecDepth 100000 in
set_option maxHeartbeats 2000000 in
theorem quota_any {w : World} {t n : Nat} {T : TT} {A : Option Addr} {c : Nat} {p : List Int} (he : Env w) (ht : GivR w t n T) (hp : Pa.PL w A c p) (hn : p.length ≤ 10000000) :
   Calls Tryz.prog 28 #[.pointer (some ⟨t, 0, none⟩), .slice A p.length c] w (RetB w (.int .i64 (quotaP (atP T) p))) := by
 have HPar := Lib.hid (Pa.parent_any hp hn)
 have HE := Lib.hid he
 have HT := Lib.hid ht
 have hw := hp.wide
 clear he ht hp
 go_enter Tryz.func28, Tryz.ntmps28
 go_wp2_with fail
 refine HPar.out.mono ?_
 rintro e w1 ⟨hb1, ⟨hp0, rfl⟩ | ⟨q, z, v, hpq, rfl, hr⟩⟩
 · subst hp0
   have B1 := Lib.hid hb1
   rw [quotaP_nil]
   clear hb1
   go_wp2_with fail
   go_ret
   exact ⟨rfl, B1.out⟩
 · obtain ⟨A1, c1, rfl, hpl⟩ := zrow_pl hr hw hpq
   have hq : q.length ≤ 10000000 := by have := congrArg List.length hpq; simp at this; omega
   have H75 := Lib.hid (find_read (HE.out.on hb1) (HT.out.on hb1) hpl hq)
   have B1 := Lib.hid hb1
   have hQ : quotaP (atP T) p = kidQ (atT T (Pa.zText q)).kids z := by rw [hpq, quotaP_at]
   rw [hpq]
   clear hb1 hpl hr hw
   obtain ⟨o, ho⟩ : ∃ o, o = atT T (Pa.zText q) := ⟨_, rfl⟩
   obtain ⟨ok, hok⟩ : ∃ ok, ok = (T (Pa.zText q)).isSome := ⟨_, rfl⟩
   unfold RetFind at H75
   rw [← ho, ← hok] at H75
   rw [← ho] at hQ
   have HQ := Lib.hid hQ
   clear ho hok hQ hpq
   go_wp2_with fail
   refine H75.out.mono ?_
   rintro e w2 ⟨hb2, v, rfl, hv, hwo⟩
   have B2 := Lib.hid (next_below B1.out hb2)
   have hal := (Below.refl w2.heap.size w2).alloc (Nat.le_refl _)
   have H81 := Lib.hid (fun O => place_any (n := z) (hv.read (hal O)) hwo)
   obtain ⟨vk, ⟨vl, vb, vo, ve, vm, rfl, ⟨Al, cl, rfl, -⟩, ⟨Ab, cb, rfl, -⟩, ⟨Ao, co, rfl, -⟩, ⟨Ae, ce, rfl, -⟩, ⟨Am, cm, rfl, -⟩⟩, ⟨Ak, ck, rfl, -, -, hks⟩⟩ := hv
   obtain ⟨cs, hcs⟩ : ∃ cs : Array Value, cs = #[.int .i64 o.kind, .slice Al o.lab.length cl, .slice Ak o.kids.length ck, .int .i64 o.next, .slice Ab o.bytes.length cb, .slice Ao o.own.length co, .int .i64 o.cats, .slice Ae o.entry.length ce, .int .i64 o.ring, .slice Am o.maps.length cm] := ⟨_, rfl⟩
   have B3 := Lib.hid (next_below B2.out (hal (.cells cs 29)))
   have X3 := Lib.hid (BoxAt.new w2 cs 29)
   have HKS := Lib.hid hks
   have HW := Lib.hid hwo
   have CS := Lib.hid hcs
   clear hb2 hal hwo hks hcs
   go_wp2_with fail
   refine (H81.out _).mono ?_
   rintro e w3 ⟨hb3, z1, rfl, hz⟩
   rw [← CS.out] at hb3
   have B4 := Lib.hid (next_below B3.out hb3)
   have hx3 := X3.out.on hb3
   rw [CS.out] at hx3
   obtain ⟨q0, q1, q2, q3, q4, q5, q6, q7, q8, q9⟩ := box10 hx3
   rcases kidQ_ix hz with ⟨rfl, hk⟩ | ⟨m, k, rfl, hm, -, hk⟩
   · have HK := Lib.hid hk
     clear hb3 hx3 hz hk q0 q1 q3 q4 q5 q6 q7 q8 q9
     go_wp2_with fail
     go_ret
     exact ⟨by rw [HQ.out, HK.out] <;> rfl, B4.out⟩
   · have HK := Lib.hid hk
     obtain ⟨e1, e2, e3⟩ := kidCells_at hm
     have hml := (List.getElem?_eq_some_iff.1 hm).1
     obtain ⟨b, of, rfl, -, hltb, hcc⟩ := HKS.out (by rw [kidCells_length]; omega)
     have d3 := ((hb3.mono (B := (w2.alloc (.cells cs 29)).heap.size) (B' := w2.heap.size) (by simp)).cell (p := ⟨b, of + (m * 3 + 2), none⟩) hltb).trans ((((Below.refl w2.heap.size w2).alloc (Nat.le_refl _) (.cells cs 29)).cell (p := ⟨b, of + (m * 3 + 2), none⟩) hltb).trans (hcc _ _ e3))
     rw [← Nat.add_assoc] at d3
     clear hb3 hx3 hz hk hm e1 e2 e3 hcc q0 q1 q3 q4 q5 q6 q7 q8 q9
     go_wp2_with fail
     go_ret
     exact ⟨by rw [HQ.out, HK.out] <;> rfl, B4.out⟩
end Go.Proofs.YtgcbfggoddkhnaaGreatDoor
namespace Go.Proofs.YtgcbfggoddkhnaaGreatDoor
open Go.RowKit
def HdRel (w : World) (T : TT) (p : List Int) (o : Ob) (k : Nat) (i : Value) (cs : Array Value) (wr : World) : Prop :=
 ∃ m, m + k = o.kids.length ∧ i = .int .i64 (m : Int) ∧ (∀ x ∈ o.kids.take m, HoldsK (atP T) p o.lab x) ∧ Below w.heap.size w wr ∧ BoxAt wr w.heap.size cs 29
set_option maxRecDepth 100000 in
set_option maxHeartbeats 4000000 in
theorem holdsKids_any {w : World} {t n : Nat} {T : TT} {F : Nat → Prop} {A : Option Addr} {c : Nat} {p : List Int} {v : Value} {o : Ob} (he : Env w) (ht : GivR w t n T) (hp : Pa.PL w A c p) (hn : p.length ≤ 10000000) (hv : ObjAt w F v o) (hw : WideO o) :
  Calls Tryz.prog 120 #[.pointer (some ⟨t, 0, none⟩), .slice A p.length c, v] w (RetB w (.bool (decide (HoldsP (atP T) p o)))) := by
 have HE := Lib.hid he
 have HT := Lib.hid ht
 have HP := Lib.hid hp
 have hkw := hw.kids
 obtain ⟨vk, ⟨vl, vb, vo, ve, vm, rfl, hl, ⟨Ab, cb, rfl, -⟩, ⟨Ao, co, rfl, -⟩, ⟨Ae, ce, rfl, -⟩, ⟨Am, cm, rfl, -⟩⟩, ⟨Ak, ck, rfl, -, -, hks⟩⟩ := hv
 have hl := hl.on (F' := No) (Below.refl _ _) (fun _ _ h => h.elim)
 obtain ⟨Al, cl, rfl, hLab⟩ := hl.lab hw.lab
 obtain ⟨cs, hcs⟩ : ∃ cs : Array Value, cs = #[.int .i64 o.kind, .slice Al o.lab.length cl, .slice Ak o.kids.length ck, .int .i64 o.next, .slice Ab o.bytes.length cb, .slice Ao o.own.length co, .int .i64 o.cats, .slice Ae o.entry.length ce, .int .i64 o.ring, .slice Am o.maps.length cm] := ⟨_, rfl⟩
 have B0 := Lib.hid ((Below.refl w.heap.size w).alloc (Nat.le_refl _) (.cells cs 29))
 have X0 := Lib.hid (BoxAt.new w cs 29)
 have HL := Lib.hid hLab
 have HKS := Lib.hid hks
 have HKW := Lib.hid hkw
 have CS := Lib.hid hcs
 clear he ht hp hw hl hLab hks hkw hcs
 go_enter Tryz.func120, Tryz.ntmps120
 go_wp2_with fail
 go_loopg [15] o.kids.length (fun k i wr => HdRel w T p o k i cs wr)
 case atStart => exact ⟨0, by simp, rfl, by simp, by rw [← CS.out]; exact B0.out, by rw [← CS.out]; exact X0.out⟩
 case round =>
  obtain ⟨m, hmk, hi, hno, hb, hx⟩ := hrel
  subst hi
  have HNO := Lib.hid hno
  have HB := Lib.hid hb
  have HX := Lib.hid hx
  cases gk with
  | zero =>
   have hge : o.kids.length ≤ m := by omega
   have HD : Hid (decide (HoldsP (atP T) p o) = true) := decide_eq_true fun k hk => HNO.out k (by rw [List.take_of_length_le hge]; exact hk)
   clear hno hb hx
   go_wp2_with fail
   go_ret
   exact ⟨by rw [HD.out] <;> rfl, HB.out⟩
  | succ j =>
   have hm : m < o.kids.length := by omega
   have hkl := HKW.out.1
   obtain ⟨k, hk⟩ : ∃ x, o.kids[m]? = some x := ⟨_, List.getElem?_eq_getElem hm⟩
   obtain ⟨e1, e2, e3⟩ := kidCells_at hk
   obtain ⟨b, of, rfl, -, hltb, hcc⟩ := HKS.out (by rw [kidCells_length]; omega)
   have hmem := List.mem_of_getElem? hk
   have hk64 := (HKW.out.2 k hmem).1
   obtain ⟨n1, kd, qq⟩ := k
   have d1 := (hb.cell (p := ⟨b, of + m * 3, none⟩) hltb).trans (hcc _ _ e1)
   have d2 := (hb.cell (p := ⟨b, of + (m * 3 + 1), none⟩) hltb).trans (hcc _ _ e2)
   have d3 := (hb.cell (p := ⟨b, of + (m * 3 + 2), none⟩) hltb).trans (hcc _ _ e3)
   rw [← Nat.add_assoc] at d2 d3
   have NO : ∀ (q : ¬ HoldsK (atP T) p o.lab (n1, kd, qq)), decide (HoldsP (atP T) p o) = false := fun q => decide_eq_false fun h => q (h _ hmem)
   have HNOT := Lib.hid NO
   have hal := (Below.refl wr.heap.size wr).alloc (Nat.le_refl _) (.cells #[.int .i64 n1, .int .i64 kd, .int .i64 qq] 85)
   have B1 := Lib.hid (next_below hb hal)
   have H79 := Lib.hid (Pa.child_any (n := n1) (HP.out.on B1.out) hn)
   have Y1 := Lib.hid (BoxAt.new wr #[.int .i64 n1, .int .i64 kd, .int .i64 qq] 85)
   have X1 := Lib.hid (hx.on hal)
   have HMK := Lib.hid hmk
   have HK := Lib.hid hk
   clear hno hb hx hk e1 e2 e3 hcc hmk hal NO hmem
   go_wp2_with fail
   refine H79.out.mono ?_
   rintro e w2 ⟨hb2, ⟨hok, v2, rfl, hr2⟩ | ⟨hok, rfl⟩⟩
   · obtain ⟨q, hq⟩ : ∃ q, q = p ++ [n1] := ⟨_, rfl⟩
     rw [← hq] at hr2 hok
     obtain ⟨A2, c2, rfl, hpl⟩ := hr2.pl hok.wide
     have B2 := Lib.hid (next_below B1.out hb2)
     have hlen : q.length ≤ 10000000 := by have := hok.1; omega
     have H75 := Lib.hid (find_read (HE.out.on B2.out) (HT.out.on B2.out) hpl hlen)
     obtain ⟨z, hz⟩ : ∃ o, o = atT T (Pa.zText q) := ⟨_, rfl⟩
     obtain ⟨ok, hkk⟩ : ∃ ok, ok = (T (Pa.zText q)).isSome := ⟨_, rfl⟩
     have Y2 := Lib.hid (Y1.out.on hb2)
     have X2 := Lib.hid (X1.out.on hb2)
     have HOK := Lib.hid hok
     unfold RetFind at H75
     rw [← hz, ← hkk] at H75
     have HH : Hid (HoldsK (atP T) p o.lab (n1, kd, qq) ↔ ok = true ∧ z.kind = kd ∧ FlowsL o.lab z.lab) := by
      unfold Hid HoldsK atP
      rw [hz, hkk]
      unfold atT
      simp only
      rw [← hq]
      cases T (Pa.zText q) with
      | none => simp
      | some y => exact ⟨fun ⟨_, c, hc, h⟩ => by cases hc; exact ⟨rfl, h⟩, fun ⟨_, h⟩ => ⟨HOK.out, y, rfl, h⟩⟩
     clear hb2 hok hr2 hpl hlen hz hkk hq
     go_wp2_with fail
     refine H75.out.mono ?_
     rintro e w3 ⟨hb3, v3, rfl, hv3, hw3⟩
     have B3 := Lib.hid (next_below B2.out hb3)
     obtain ⟨vk3, ⟨vl3, vb3, vo3, ve3, vm3, rfl, hl3, ⟨Ab3, cb3, rfl, -⟩, ⟨Ao3, co3, rfl, -⟩, ⟨Ae3, ce3, rfl, -⟩, ⟨Am3, cm3, rfl, -⟩⟩, ⟨Ak3, ck3, rfl, -⟩⟩ := hv3
     obtain ⟨Al3, cl3, rfl, hLab3⟩ := hl3.lab hw3.lab
     have hal3 := fun O => (Below.refl w3.heap.size w3).alloc (Nat.le_refl _) O
     have H116 := Lib.hid (fun O => flows_any (HE.out.on (next_below B3.out (hal3 O))) (HL.out.on (next_below B3.out (hal3 O))) (hLab3.on (hal3 O)))
     have B4 := Lib.hid (fun O => next_below B3.out (hal3 O))
     have X3 := X2.out.on hb3
     have Y3 := Y2.out.on hb3
     have xc : ∀ O, BoxAt (w3.alloc O) w.heap.size cs 29 := fun O => X3.alloc O
     have yc : ∀ O, BoxAt (w3.alloc O) wr.heap.size #[.int .i64 n1, .int .i64 kd, .int .i64 qq] 85 := fun O => Y3.alloc O
     have XC := Lib.hid xc
     have y1 := fun O => (yc O).cell (k := 1) rfl
     have x1 := fun O => (xc O).cell (k := 1) (v := .slice Al o.lab.length cl) (by rw [CS.out]; rfl)
     clear hb3 hw3 hl3 hLab3 hal3 X3 Y3 xc yc
     cases ok with
     | false =>
      have HD := Lib.hid (HNOT.out fun h => by have := (HH.out.1 h).1; cases this)
      go_wp2_with fail
      go_ret
      exact ⟨by rw [HD.out] <;> rfl, B4.out _⟩
     | true =>
      by_cases hkd : z.kind = kd
      · have hq : (z.kind == kd) = true := by simpa using hkd
        have hq2 : (z.kind != kd) = false := by simpa using hkd
        by_cases hf : FlowsL o.lab z.lab
        · rw [decide_eq_true hf] at H116
          have HN2 : Hid (∀ x ∈ o.kids.take (m + 1), HoldsK (atP T) p o.lab x) := fun x hx => by
           rcases (take_mem' HK.out).1 hx with hx | rfl
           · exact HNO.out x hx
           · exact HH.out.2 ⟨rfl, hkd, hf⟩
          clear hf hkd
          go_wp2_with (first | (go_at_call 116; refine (H116.out _).mono ?_; rintro e w4 ⟨rfl, hb4⟩; have B5 := Lib.hid (next_below (B4.out _) hb4); have X5 := Lib.hid ((XC.out _).on hb4); clear hb4))
          go_roundg j
          case measure => omega
          case rel => exact ⟨m + 1, by have := HMK.out; omega, by go_num, HN2.out, B5.out, X5.out⟩
        · rw [decide_eq_false hf] at H116
          have HD := Lib.hid (HNOT.out fun h => hf (HH.out.1 h).2.2)
          clear hf hkd
          go_wp2_with (first | (go_at_call 116; refine (H116.out _).mono ?_; rintro e w4 ⟨rfl, hb4⟩; have B5 := Lib.hid (next_below (B4.out _) hb4); clear hb4))
          go_ret
          exact ⟨by rw [HD.out] <;> rfl, B5.out⟩
      · have hq : (z.kind == kd) = false := by simpa using hkd
        have hq2 : (z.kind != kd) = true := by simpa using hkd
        have HD := Lib.hid (HNOT.out fun h => hkd (HH.out.1 h).2.1)
        clear hkd
        go_wp2_with fail
        go_ret
        exact ⟨by rw [HD.out] <;> rfl, B4.out _⟩
   · have B2 := Lib.hid (next_below B1.out hb2)
     have HD := Lib.hid (HNOT.out fun h => hok h.1)
     clear hb2 hok
     go_wp2_with fail
     go_ret
     exact ⟨by rw [HD.out] <;> rfl, B2.out⟩
end Go.Proofs.YtgcbfggoddkhnaaGreatDoor
