/- path.Get. -/
import Derived.Test.YtoegmajkfaokdaaDoorRi
import Derived.Test.YtoegmajkfaokdaaDoorTf
namespace Go.Proofs.YtoegmajkfaokdaaDoor
open Go.RowKit

/-- What the next number is: the number, the bytes left, no fault so far. -/
noncomputable def numStep (l : List Nat) (ok : Bool) (most : Int) : Int × List Nat × Bool :=
  if ok then
    match numAt l most with
    | some x => ((x.1 : Int), x.2, true)
    | none => (0, l, false)
  else (0, l, false)
theorem numStep_some {l r : List Nat} {most : Int} {n : Nat} (h : l = Tp.enc n ++ r) (h1 : (n : Int) ≤ most) (h2 : n < 9223372036854775808) : numStep l true most = ((n : Int), r, true) := by
  unfold numStep
  rw [if_pos rfl, numAt_some h h1 h2]
theorem numStep_none {l : List Nat} {most : Int} (h : Tp.NoNum l most) : numStep l true most = (0, l, false) := by
  unfold numStep
  rw [if_pos rfl, numAt_none h]
theorem numStep_no (l : List Nat) (most : Int) : numStep l false most = (0, l, false) := rfl
theorem numAt_spec {l : List Nat} {most : Int} {x : Nat × List Nat} (h : numAt l most = some x) : l = Tp.enc x.1 ++ x.2 ∧ (x.1 : Int) ≤ most ∧ x.1 < 9223372036854775808 := by
  unfold numAt at h
  split at h
  · rename_i hx
    injection h with h
    rw [← h]
    exact hx.choose_spec
  · cases h
/-- Bytes left are an end of what was there; the number is in reach. -/
theorem numStep_end (l : List Nat) (ok : Bool) (most : Int) : ∃ p, l = p ++ (numStep l ok most).2.1 := by
  unfold numStep
  split
  · split
    · rename_i x hx
      exact ⟨_, (numAt_spec hx).1⟩
    · exact ⟨[], rfl⟩
  · exact ⟨[], rfl⟩
theorem numStep_reach (l : List Nat) (ok : Bool) {most : Int} (hm : 0 ≤ most) : 0 ≤ (numStep l ok most).1 ∧ (numStep l ok most).1 ≤ most := by
  unfold numStep
  split
  · split
    · rename_i x hx
      have := (numAt_spec hx).2.1
      simp
      omega
    · simp; omega
  · simp; omega
theorem numStep_sml {l : List Nat} (h : Tp.Sml l) (ok : Bool) (most : Int) : Tp.Sml (numStep l ok most).2.1 := fun c hc => by
  obtain ⟨p, hp⟩ := numStep_end l ok most
  exact h c (by rw [hp]; exact List.mem_append_right _ hc)
theorem numStep_len (l : List Nat) (ok : Bool) (most : Int) : (numStep l ok most).2.1.length ≤ l.length := by
  obtain ⟨p, hp⟩ := numStep_end l ok most
  have := congrArg List.length hp
  rw [List.length_append] at this
  omega
theorem rdStep_eq (s : RdSt) : rdStep s = (s.1 ++ [(numStep s.2.1 s.2.2 1048576).1], (numStep s.2.1 s.2.2 1048576).2) := by
  unfold rdStep numStep
  generalize s.2.2 = b
  cases b with
  | false => rfl
  | true =>
    generalize numAt s.2.1 1048576 = y
    cases y <;> rfl
/-- The state at the first number's end. -/
noncomputable def rd0 (l : List Nat) : RdSt := ([], (numStep l true 6).2)
noncomputable def rdN (l : List Nat) : Nat := (numStep l true 6).1.toNat
theorem rdAll_eq (l : List Nat) : rdAll l = rd (rdN l) (rd0 l) := by
  unfold rdAll rdN rd0 numStep
  rw [if_pos rfl]
  generalize numAt l 6 = y
  cases y with
  | none => rfl
  | some x => simp
theorem rdN_le (l : List Nat) : rdN l ≤ 6 := by
  have := numStep_reach l true (most := 6) (by omega)
  unfold rdN
  omega
theorem rdN_int (l : List Nat) : ((rdN l : Nat) : Int) = (numStep l true 6).1 := by
  have := numStep_reach l true (most := 6) (by omega)
  unfold rdN
  omega
theorem rd_sml {l : List Nat} (h : Tp.Sml l) : ∀ m, Tp.Sml (rd m (rd0 l)).2.1 ∧ (rd m (rd0 l)).2.1.length ≤ l.length
  | 0 => ⟨numStep_sml h _ _, numStep_len _ _ _⟩
  | m + 1 => by
    have ih := rd_sml h m
    show Tp.Sml (rdStep (rd m (rd0 l))).2.1 ∧ _
    rw [rd, rdStep_eq]
    exact ⟨numStep_sml ih.1 _ _, Nat.le_trans (numStep_len _ _ _) ih.2⟩
theorem rd_wide (l : List Nat) : ∀ m, WideZ (rd m (rd0 l)).1 ∧ (rd m (rd0 l)).1.length = m
  | 0 => ⟨fun z hz => by simp [rd, rd0] at hz, rfl⟩
  | m + 1 => by
    have ih := rd_wide l m
    rw [rd, rdStep_eq]
    refine ⟨fun z hz => ?_, by simp [ih.2]⟩
    rcases List.mem_append.1 hz with h | h
    · exact ih.1 z h
    · have := numStep_reach (rd m (rd0 l)).2.1 (rd m (rd0 l)).2.2 (most := 1048576) (by omega)
      simp at h
      omega

theorem ZRow.kp {S : Nat → Prop} {w w' : World} {B : Nat} {v : Value} {l : List Int} (h : ZRow w B v l) (hk : Tp.Kp S w w') (hS : ∀ j, B ≤ j → j < w.heap.size → ¬ S j) : ZRow w' B v l := by
  have h0 : w.ownsRow B 3 1 v l.length (zCellsOf l) := h
  refine ⟨h0.1, ?_⟩
  rcases h0.2 with h2 | ⟨g, cap, cur, hv, hb, hh, hr⟩
  · exact .inl h2
  · have hlt := (h0.lt g (by rw [hv]; rfl))
    exact .inr ⟨g, cap, cur, hv, hb, (hk.block g hlt.2 (hS g hb hlt.2)).trans hh, hr⟩

/-- A tape with or without a fault. -/
def TapeE (w : World) (g : Nat) (k : Option Nat) (l : List Nat) (ok : Bool) : Prop := (ok = true ∧ Tp.TapeAt w g k l .nilIface) ∨ (ok = false ∧ ∃ T x, Tp.TapeAt w g k l (.iface T x))
theorem TapeE.kp {S : Nat → Prop} {w w' : World} {g : Nat} {k : Option Nat} {l : List Nat} {ok : Bool} (h : TapeE w g k l ok) (hk : Tp.Kp S w w') (hg : ¬ S g) (hr : ∀ j, k = some j → ¬ S j) : TapeE w' g k l ok := by
  rcases h with ⟨h1, h2⟩ | ⟨h1, T, x, h2⟩
  · exact .inl ⟨h1, h2.kp hk hg hr⟩
  · exact .inr ⟨h1, T, x, h2.kp hk hg hr⟩
theorem TapeE.lt {w : World} {g : Nat} {k : Option Nat} {l : List Nat} {ok : Bool} (h : TapeE w g k l ok) : g < w.heap.size := by
  rcases h with ⟨_, h2⟩ | ⟨_, T, x, h2⟩
  · exact h2.lt
  · exact h2.lt
theorem tape_any {w : World} {g : Nat} {k : Option Nat} {l : List Nat} {ok : Bool} {most : Int} (h : TapeE w g k l ok) (hs : Tp.Sml l) (hn : l.length ≤ 900000) :
    Calls Tryd.prog 46 #[.pointer (some ⟨g, 0, none⟩), .int .i64 most] w fun e w' => e = .returned (.int .i64 (numStep l ok most).1) ∧ TapeE w' g k (numStep l ok most).2.1 (numStep l ok most).2.2 ∧ Tp.Kp (fun b => b = g) w w' := by
  rcases h with ⟨rfl, h2⟩ | ⟨rfl, T, x, h2⟩
  · refine (Tp.tape_number h2 hs hn).mono ?_
    rintro e w' ⟨hk, ⟨n, r, hl, hle, hlt, rfl, ht⟩ | ⟨hno, rfl, T, x, ht⟩⟩
    · rw [numStep_some hl hle hlt]
      exact ⟨rfl, .inl ⟨rfl, ht⟩, hk⟩
    · rw [numStep_none hno]
      exact ⟨rfl, .inr ⟨rfl, T, x, ht⟩, hk⟩
  · refine (Tp.tape_number_fault h2).mono ?_
    rintro e w' ⟨rfl, rfl⟩
    rw [numStep_no]
    exact ⟨rfl, .inr ⟨rfl, T, x, h2⟩, Tp.Kp.refl _ _⟩

def GetRel (w : World) (g : Nat) (kk : Option Nat) (l : List Nat) (k : Nat) (v i : Value) (wr : World) : Prop :=
  ∃ m, m + k = rdN l ∧ i = .int .i64 (m : Int) ∧ TapeE wr g kk (rd m (rd0 l)).2.1 (rd m (rd0 l)).2.2 ∧ ZRow wr w.heap.size v (rd m (rd0 l)).1 ∧ Tp.Kp (fun b => b = g) w wr

/-- A new row and no error, or nothing and ErrForm. -/
def RetGet (w : World) (l : List Nat) (e : Ending) (w' : World) : Prop :=
  ((rdAll l).2.2 = true ∧ ∃ v, e = .returned (.tuple #[v, .int .i64 0]) ∧ ZRow w' w.heap.size v (rdAll l).1) ∨ ((rdAll l).2.2 = false ∧ e = .returned (.tuple #[.slice none 0 0, .int .i64 10]))

set_option maxRecDepth 100000 in
set_option maxHeartbeats 1000000 in
theorem get_any {w : World} {g : Nat} {k : Option Nat} {l : List Nat} (ht : Tp.TapeAt w g k l .nilIface) (hs : Tp.Sml l) (hn : l.length ≤ 900000) :
    Calls Tryd.prog 28 #[.pointer (some ⟨g, 0, none⟩)] w fun e w' => Tp.Kp (fun b => b = g) w w' ∧ TapeE w' g k (rdAll l).2.1 (rdAll l).2.2 ∧ RetGet w l e w' := by
  have hglt := ht.lt
  have HKL := Lib.hid ht.row_lt
  have HS := Lib.hid hs
  have H46 := tape_any (most := 6) (.inl ⟨rfl, ht⟩) hs hn
  rw [← rdN_int] at H46
  have H46 := Lib.hid H46
  have hN := rdN_le l
  have HEQ := Lib.hid (rdAll_eq l)
  clear ht hs
  obtain ⟨n, hnn⟩ : ∃ n, n = rdN l := ⟨_, rfl⟩
  have HNN := Lib.hid hnn
  rw [← hnn] at H46 hN
  clear hnn
  go_enter Tryd.func28, Tryd.ntmps28
  go_wp2_with fail
  refine H46.out.mono ?_
  rintro e w1 ⟨rfl, ht1, hk1⟩
  have HT1 : Hid (TapeE w1 g k (rd 0 (rd0 l)).2.1 (rd 0 (rd0 l)).2.2) := ht1
  have HK1 := Lib.hid hk1
  clear ht1 hk1 H46
  go_wp2_with fail
  go_loopg [4, 7] n (fun c v i wr => GetRel w g k l c v i wr)
  case atStart => exact ⟨0, by rw [HNN.out]; simp, rfl, HT1.out, World.ownsRow_nil _ _ _ _, HK1.out⟩
  case round =>
    obtain ⟨m, hmk, hi, htp, hrow, hkp⟩ := hrel
    subst hi
    have HT := Lib.hid htp
    have HROW := Lib.hid hrow
    have HK := Lib.hid hkp
    have hsz := hkp.size
    rw [← HNN.out] at hmk
    cases gk with
    | zero =>
      have hmn : m = n := by omega
      have HM : Hid (rd m (rd0 l) = rdAll l) := by rw [Hid, HEQ.out, hmn, HNN.out]
      have hge : ¬ m < n := by omega
      rw [HM.out] at htp hrow HT HROW
      obtain ⟨A4, c4, hv4, _⟩ := hrow.zs
      subst hv4
      rcases htp with ⟨hok, ht⟩ | ⟨hok, T, x, ht⟩
      · have H47 := Lib.hid (Tp.tape_err ht)
        have HOK := Lib.hid hok
        clear hrow hkp ht hok hmn hmk
        go_wp2_with (first | (go_at_call 47; refine H47.out.mono ?_; rintro e w' ⟨rfl, rfl⟩))
        go_ret2
        exact ⟨HK.out, HT.out, .inl ⟨HOK.out, _, rfl, HROW.out⟩⟩
      · have H47 := Lib.hid (Tp.tape_err ht)
        have HOK := Lib.hid hok
        clear hrow hkp ht hok hmn hmk
        go_wp2_with (first | (go_at_call 47; refine H47.out.mono ?_; rintro e w' ⟨rfl, rfl⟩))
        go_ret2
        exact ⟨HK.out, HT.out, .inr ⟨HOK.out, rfl⟩⟩
    | succ j =>
      have hm : m < n := by omega
      have hsm := rd_sml HS.out m
      have H46 := Lib.hid (tape_any (most := 1048576) htp hsm.1 (by omega))
      have HM := Lib.hid hmk
      obtain ⟨st, hst⟩ : ∃ st, st = rd m (rd0 l) := ⟨_, rfl⟩
      have HST := Lib.hid hst
      have hlen : st.1.length = m := by rw [hst]; exact (rd_wide l m).2
      rw [← hst] at H46 HROW HT
      obtain ⟨z, hz⟩ : ∃ z, z = (numStep st.2.1 st.2.2 1048576).1 := ⟨_, rfl⟩
      have HZ := Lib.hid hz
      rw [← hz] at H46
      clear hz hst htp hrow hkp hmk hsm
      go_wp2_with fail
      refine H46.out.mono ?_
      rintro e w2 ⟨rfl, ht2, hk2⟩
      have K3 : Hid (Tp.Kp (fun b => b = g) w w2) := HK.out.andThen hk2 (fun _ _ h => h)
      have R3 := Lib.hid (HROW.out.kp hk2 (fun j hj _ e => by omega))
      have T3 := Lib.hid ht2
      have hle : st.1.length + 1 ≤ 1000001 := by omega
      have hs3 := K3.out.size
      have hbase : w.heap.size ≤ (w2.alloc (.cells #[.int .i64 z] 3)).heap.size := by simp; omega
      clear hk2 ht2 H46
      go_wp2_with (first
        | (at_builtin; refine wpList_append_z rfl _ _ rfl w.heap.size _ st.1 rfl (World.ownsRow.alloc R3.out _) ⟨w2.heap.size, 0, none⟩ z rfl (cell_one_new _ _ _) hle hbase ?_))
      intro v' w4 hown hb4
      have R4 := Lib.hid hown
      have hall : Below w.heap.size w2 w4 := ((Below.refl _ _).alloc hs3 _).trans hb4
      have K4 : Hid (Tp.Kp (fun b => b = g) w w4) := ⟨hall.os.trans K3.out.os, hall.tape.trans K3.out.tape, hall.output.trans K3.out.output, Nat.le_trans K3.out.size hall.size, fun j hj hne => (hall.block j hj).trans (K3.out.block j hj hne)⟩
      have T4 := Lib.hid (T3.out.kp (S := fun j => w.heap.size ≤ j) ⟨hall.os, hall.tape, hall.output, hall.size, fun j _ hne => hall.block j (by omega)⟩ (by omega) (fun j hj => by have := HKL.out j hj; omega))
      clear hown hb4 hall
      go_wp2_with fail
      go_roundg j
      case measure => omega
      case rel =>
        refine ⟨m + 1, by have := HM.out; rw [← HNN.out]; omega, by go_num, ?_, ?_, K4.out⟩
        · rw [rd, rdStep_eq, ← HST.out]; exact T4.out
        · rw [rd, rdStep_eq, ← HST.out, ← HZ.out]; exact R4.out
end Go.Proofs.YtoegmajkfaokdaaDoor
