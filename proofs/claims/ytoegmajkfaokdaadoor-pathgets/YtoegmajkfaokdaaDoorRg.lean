/- The reference's Get. -/
import Derived.Test.YtoegmajkfaokdaaDoorRn
namespace Go.Proofs.YtoegmajkfaokdaaDoor
open Go.RowKit

def RgRel (w : World) (g : Nat) (l : List Nat) (k : Nat) (v i : Value) (wr : World) : Prop :=
  ∃ m, m + k = rdN l ∧ i = .int .i64 (m : Int) ∧ RTape wr g (rd m (rd0 l)).2.1 (rd m (rd0 l)).2.2 ∧ ZRow wr w.heap.size v (rd m (rd0 l)).1 ∧ Tp.Kp (fun b => b = g) w wr

set_option maxRecDepth 100000 in
set_option maxHeartbeats 1000000 in
theorem refGet_any {w : World} {g : Nat} {l : List Nat} (ht : RT w g (Tp.str l) 0) (hs : Tp.Sml l) (hn : l.length ≤ 900000) :
    Calls Tryd.prog 29 #[.pointer (some ⟨g, 0, none⟩)] w fun e w' => Tp.Kp (fun b => b = g) w w' ∧ RTape w' g (rdAll l).2.1 (rdAll l).2.2 ∧ RetGet w l e w' := by
  have hglt := ht.lt
  have HS := Lib.hid hs
  have H46 : Calls Tryd.prog 48 #[.pointer (some ⟨g, 0, none⟩), .int .i64 6] w fun e w' => e = .returned (.int .i64 (numStep l true 6).1) ∧ RTape w' g (numStep l true 6).2.1 (numStep l true 6).2.2 ∧ Tp.Kp (fun b => b = g) w w' := refNum_any (most := 6) ⟨0, ht, by simp⟩ hs hn
  rw [← rdN_int] at H46
  have H46 := Lib.hid H46
  have hN := rdN_le l
  have HEQ := Lib.hid (rdAll_eq l)
  clear ht hs
  obtain ⟨n, hnn⟩ : ∃ n, n = rdN l := ⟨_, rfl⟩
  have HNN := Lib.hid hnn
  rw [← hnn] at H46 hN
  clear hnn
  go_enter Tryd.func29, Tryd.ntmps29
  go_wp2_with fail
  refine H46.out.mono ?_
  rintro e w1 ⟨rfl, ht1, hk1⟩
  have HT1 : Hid (RTape w1 g (rd 0 (rd0 l)).2.1 (rd 0 (rd0 l)).2.2) := ht1
  have HK1 := Lib.hid hk1
  clear ht1 hk1 H46
  go_wp2_with fail
  go_loopg [4, 6] n (fun c v i wr => RgRel w g l c v i wr)
  case atStart => exact ⟨0, by rw [HNN.out]; simp, rfl, HT1.out, World.ownsRow_nil _ _ _ _, HK1.out⟩
  case round =>
    obtain ⟨m, hmk, hi, htp, hrow, hkp⟩ := hrel
    subst hi
    have HT := Lib.hid htp
    have HROW := Lib.hid hrow
    have HK := Lib.hid hkp
    have hsz := hkp.size
    rw [← HNN.out] at hmk
    cases gk with
    | zero =>
      have hmn : m = n := by omega
      have HM : Hid (rd m (rd0 l) = rdAll l) := by rw [Hid, HEQ.out, hmn, HNN.out]
      have hge : ¬ m < n := by omega
      rw [HM.out] at htp hrow HT HROW
      obtain ⟨A4, c4, hv4, _⟩ := hrow.zs
      subst hv4
      obtain ⟨E, hrt, hE⟩ := htp
      have c1 := hrt.cell1
      by_cases hE0 : E = 0
      · subst hE0
        have HOK := Lib.hid (hE.2 rfl)
        clear hrow hkp hrt hE hmn hmk
        go_wp2_with fail
        go_ret2
        exact ⟨HK.out, HT.out, .inl ⟨HOK.out, _, rfl, HROW.out⟩⟩
      · have HOK : Hid ((rdAll l).2.2 = false) := by
          cases h : (rdAll l).2.2 with
          | false => rfl
          | true => exact absurd (hE.1 h) hE0
        have hq : (E != 0) = true := by simpa using hE0
        clear hrow hkp hrt hE hmn hmk hE0
        go_wp2_with fail
        go_ret2
        exact ⟨HK.out, HT.out, .inr ⟨HOK.out, rfl⟩⟩
    | succ j =>
      have hm : m < n := by omega
      have hsm := rd_sml HS.out m
      have H46 : Calls Tryd.prog 48 #[.pointer (some ⟨g, 0, none⟩), .int .i64 1048576] wr fun e w' => e = .returned (.int .i64 (numStep (rd m (rd0 l)).2.1 (rd m (rd0 l)).2.2 1048576).1) ∧ RTape w' g (numStep (rd m (rd0 l)).2.1 (rd m (rd0 l)).2.2 1048576).2.1 (numStep (rd m (rd0 l)).2.1 (rd m (rd0 l)).2.2 1048576).2.2 ∧ Tp.Kp (fun b => b = g) wr w' := refNum_any (most := 1048576) htp hsm.1 (by omega)
      have H46 := Lib.hid H46
      have HM := Lib.hid hmk
      obtain ⟨st, hst⟩ : ∃ st, st = rd m (rd0 l) := ⟨_, rfl⟩
      have HST := Lib.hid hst
      have hlen : st.1.length = m := by rw [hst]; exact (rd_wide l m).2
      rw [← hst] at H46 HROW HT
      obtain ⟨z, hz⟩ : ∃ z, z = (numStep st.2.1 st.2.2 1048576).1 := ⟨_, rfl⟩
      have HZ := Lib.hid hz
      rw [← hz] at H46
      clear hz hst htp hrow hkp hmk hsm
      go_wp2_with fail
      refine H46.out.mono ?_
      rintro e w2 ⟨rfl, ht2, hk2⟩
      have K3 : Hid (Tp.Kp (fun b => b = g) w w2) := HK.out.andThen hk2 (fun _ _ h => h)
      have R3 := Lib.hid (HROW.out.kp hk2 (fun j hj _ e => by omega))
      have T3 := Lib.hid ht2
      have hle : st.1.length + 1 ≤ 1000001 := by omega
      have hs3 := K3.out.size
      have hbase : w.heap.size ≤ (w2.alloc (.cells #[.int .i64 z] 3)).heap.size := by simp; omega
      clear hk2 ht2 H46
      go_wp2_with (first
        | (at_builtin; refine wpList_append_z rfl _ _ rfl w.heap.size _ st.1 rfl (World.ownsRow.alloc R3.out _) ⟨w2.heap.size, 0, none⟩ z rfl (cell_one_new _ _ _) hle hbase ?_))
      intro v' w4 hown hb4
      have R4 := Lib.hid hown
      have hall : Below w.heap.size w2 w4 := ((Below.refl _ _).alloc hs3 _).trans hb4
      have K4 : Hid (Tp.Kp (fun b => b = g) w w4) := ⟨hall.os.trans K3.out.os, hall.tape.trans K3.out.tape, hall.output.trans K3.out.output, Nat.le_trans K3.out.size hall.size, fun j hj hne => (hall.block j hj).trans (K3.out.block j hj hne)⟩
      have T4 := Lib.hid (T3.out.kp (P := fun j => w.heap.size ≤ j) ⟨hall.os, hall.tape, hall.output, hall.size, fun j _ hne => hall.block j (by omega)⟩ (by omega))
      clear hown hb4 hall
      go_wp2_with fail
      go_roundg j
      case measure => omega
      case rel =>
        refine ⟨m + 1, by have := HM.out; rw [← HNN.out]; omega, by go_num, ?_, ?_, K4.out⟩
        · rw [rd, rdStep_eq, ← HST.out]; exact T4.out
        · rw [rd, rdStep_eq, ← HST.out, ← HZ.out]; exact R4.out
end Go.Proofs.YtoegmajkfaokdaaDoor
