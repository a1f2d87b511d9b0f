/- Lemmas for the law: QGt, Tg, Pn, Za, Ob, Sort, O. -/
import Derived.Test.YtgcbfggoddkhnaaGreatDoorM06
import Derived.Test.YtgcbfggoddkhnaaGreatDoorM05
import Derived.Test.YtgcbfggoddkhnaaGreatDoorM04
import Derived.Test.YtgcbfggoddkhnaaGreatDoorM01
import Derived.Shelf.SlSortCmp.NoneTotal
import Derived.Test.YtgcbfggoddkhnaaGreatDoorProg
import Derived.Test.YtgcbfggoddkhnaaGreatDoorM02
import Derived.Test.YtgcbfggoddkhnaaGreatDoorM03
namespace Go.Proofs.YtgcbfggoddkhnaaGreatDoor.Pa
open Go.RowKit
noncomputable def numStep (l : List Nat) (ok : Bool) (most : Int) : Int × List Nat × Bool :=
  if ok then
    match numAt l most with
    | some x => ((x.1 : Int), x.2, true)
    | none => (0, l, false)
  else (0, l, false)
theorem numStep_some {l r : List Nat} {most : Int} {n : Nat} (h : l = Tp.enc n ++ r) (h1 : (n : Int) ≤ most) (h2 : n < 9223372036854775808) : numStep l true most = ((n : Int), r, true) := by
  unfold numStep
  rw [if_pos rfl, numAt_some h h1 h2]
theorem numStep_none {l : List Nat} {most : Int} (h : Tp.NoNum l most) : numStep l true most = (0, l, false) := by
  unfold numStep
  rw [if_pos rfl, numAt_none h]
theorem numStep_no (l : List Nat) (most : Int) : numStep l false most = (0, l, false) := rfl
theorem numAt_spec {l : List Nat} {most : Int} {x : Nat × List Nat} (h : numAt l most = some x) : l = Tp.enc x.1 ++ x.2 ∧ (x.1 : Int) ≤ most ∧ x.1 < 9223372036854775808 := by
  unfold numAt at h
  split at h
  · rename_i hx
    injection h with h
    rw [← h]
    exact hx.choose_spec
  · cases h
theorem numStep_end (l : List Nat) (ok : Bool) (most : Int) : ∃ p, l = p ++ (numStep l ok most).2.1 := by
  unfold numStep
  split
  · split
    · rename_i x hx
      exact ⟨_, (numAt_spec hx).1⟩
    · exact ⟨[], rfl⟩
  · exact ⟨[], rfl⟩
theorem numStep_reach (l : List Nat) (ok : Bool) {most : Int} (hm : 0 ≤ most) : 0 ≤ (numStep l ok most).1 ∧ (numStep l ok most).1 ≤ most := by
  unfold numStep
  split
  · split
    · rename_i x hx
      have := (numAt_spec hx).2.1
      simp
      omega
    · simp; omega
  · simp; omega
theorem numStep_sml {l : List Nat} (h : Tp.Sml l) (ok : Bool) (most : Int) : Tp.Sml (numStep l ok most).2.1 := fun c hc => by
  obtain ⟨p, hp⟩ := numStep_end l ok most
  exact h c (by rw [hp]; exact List.mem_append_right _ hc)
theorem numStep_len (l : List Nat) (ok : Bool) (most : Int) : (numStep l ok most).2.1.length ≤ l.length := by
  obtain ⟨p, hp⟩ := numStep_end l ok most
  have := congrArg List.length hp
  rw [List.length_append] at this
  omega
theorem rdStep_eq (s : RdSt) : rdStep s = (s.1 ++ [(numStep s.2.1 s.2.2 1048576).1], (numStep s.2.1 s.2.2 1048576).2) := by
  unfold rdStep numStep
  generalize s.2.2 = b
  cases b with
  | false => rfl
  | true =>
    generalize numAt s.2.1 1048576 = y
    cases y <;> rfl
noncomputable def rd0 (l : List Nat) : RdSt := ([], (numStep l true 6).2)
noncomputable def rdN (l : List Nat) : Nat := (numStep l true 6).1.toNat
theorem rdAll_eq (l : List Nat) : rdAll l = rd (rdN l) (rd0 l) := by
  unfold rdAll rdN rd0 numStep
  rw [if_pos rfl]
  generalize numAt l 6 = y
  cases y with
  | none => rfl
  | some x => simp
theorem rdN_le (l : List Nat) : rdN l ≤ 6 := by
  have := numStep_reach l true (most := 6) (by omega)
  unfold rdN
  omega
theorem rdN_int (l : List Nat) : ((rdN l : Nat) : Int) = (numStep l true 6).1 := by
  have := numStep_reach l true (most := 6) (by omega)
  unfold rdN
  omega
theorem rd_sml {l : List Nat} (h : Tp.Sml l) : ∀ m, Tp.Sml (rd m (rd0 l)).2.1 ∧ (rd m (rd0 l)).2.1.length ≤ l.length
  | 0 => ⟨numStep_sml h _ _, numStep_len _ _ _⟩
  | m + 1 => by
    have ih := rd_sml h m
    show Tp.Sml (rdStep (rd m (rd0 l))).2.1 ∧ _
    rw [rd, rdStep_eq]
    exact ⟨numStep_sml ih.1 _ _, Nat.le_trans (numStep_len _ _ _) ih.2⟩
theorem rd_wide (l : List Nat) : ∀ m, WideZ (rd m (rd0 l)).1 ∧ (rd m (rd0 l)).1.length = m
  | 0 => ⟨fun z hz => by simp [rd, rd0] at hz, rfl⟩
  | m + 1 => by
    have ih := rd_wide l m
    rw [rd, rdStep_eq]
    refine ⟨fun z hz => ?_, by simp [ih.2]⟩
    rcases List.mem_append.1 hz with h | h
    · exact ih.1 z h
    · have := numStep_reach (rd m (rd0 l)).2.1 (rd m (rd0 l)).2.2 (most := 1048576) (by omega)
      simp at h
      omega
theorem ZRow.kp {S : Nat → Prop} {w w' : World} {B : Nat} {v : Value} {l : List Int} (h : ZRow w B v l) (hk : Tp.Kp S w w') (hS : ∀ j, B ≤ j → j < w.heap.size → ¬ S j) : ZRow w' B v l := by
  have h0 : w.ownsRow B 3 1 v l.length (zCellsOf l) := h
  refine ⟨h0.1, ?_⟩
  rcases h0.2 with h2 | ⟨g, cap, cur, hv, hb, hh, hr⟩
  · exact .inl h2
  · have hlt := (h0.lt g (by rw [hv]; rfl))
    exact .inr ⟨g, cap, cur, hv, hb, (hk.block g hlt.2 (hS g hb hlt.2)).trans hh, hr⟩
def TapeE (w : World) (g : Nat) (k : Option Nat) (l : List Nat) (ok : Bool) : Prop := (ok = true ∧ Tp.TapeAt w g k l .nilIface) ∨ (ok = false ∧ ∃ T x, Tp.TapeAt w g k l (.iface T x))
theorem TapeE.kp {S : Nat → Prop} {w w' : World} {g : Nat} {k : Option Nat} {l : List Nat} {ok : Bool} (h : TapeE w g k l ok) (hk : Tp.Kp S w w') (hg : ¬ S g) (hr : ∀ j, k = some j → ¬ S j) : TapeE w' g k l ok := by
  rcases h with ⟨h1, h2⟩ | ⟨h1, T, x, h2⟩
  · exact .inl ⟨h1, h2.kp hk hg hr⟩
  · exact .inr ⟨h1, T, x, h2.kp hk hg hr⟩
theorem TapeE.lt {w : World} {g : Nat} {k : Option Nat} {l : List Nat} {ok : Bool} (h : TapeE w g k l ok) : g < w.heap.size := by
  rcases h with ⟨_, h2⟩ | ⟨_, T, x, h2⟩
  · exact h2.lt
  · exact h2.lt
theorem tape_any {w : World} {g : Nat} {k : Option Nat} {l : List Nat} {ok : Bool} {most : Int} (h : TapeE w g k l ok) (hs : Tp.Sml l) (hn : l.length ≤ 90000000) :
    Calls Tryz.prog 90 #[.pointer (some ⟨g, 0, none⟩), .int .i64 most] w fun e w' => e = .returned (.int .i64 (numStep l ok most).1) ∧ TapeE w' g k (numStep l ok most).2.1 (numStep l ok most).2.2 ∧ Tp.Kp (fun b => b = g) w w' := by
  rcases h with ⟨rfl, h2⟩ | ⟨rfl, T, x, h2⟩
  · refine (Tp.tape_number h2 hs hn).mono ?_
    rintro e w' ⟨hk, ⟨n, r, hl, hle, hlt, rfl, ht⟩ | ⟨hno, rfl, T, x, ht⟩⟩
    · rw [numStep_some hl hle hlt]
      exact ⟨rfl, .inl ⟨rfl, ht⟩, hk⟩
    · rw [numStep_none hno]
      exact ⟨rfl, .inr ⟨rfl, T, x, ht⟩, hk⟩
  · refine (Tp.tape_number_fault h2).mono ?_
    rintro e w' ⟨rfl, rfl⟩
    rw [numStep_no]
    exact ⟨rfl, .inr ⟨rfl, T, x, h2⟩, Tp.Kp.refl _ _⟩
def GetRel (w : World) (g : Nat) (kk : Option Nat) (l : List Nat) (k : Nat) (v i : Value) (wr : World) : Prop :=
  ∃ m, m + k = rdN l ∧ i = .int .i64 (m : Int) ∧ TapeE wr g kk (rd m (rd0 l)).2.1 (rd m (rd0 l)).2.2 ∧ ZRow wr w.heap.size v (rd m (rd0 l)).1 ∧ Tp.Kp (fun b => b = g) w wr
def RetGet (w : World) (l : List Nat) (e : Ending) (w' : World) : Prop :=
  ((rdAll l).2.2 = true ∧ ∃ v, e = .returned (.tuple #[v, .int .i64 0]) ∧ ZRow w' w.heap.size v (rdAll l).1) ∨ ((rdAll l).2.2 = false ∧ e = .returned (.tuple #[.slice none 0 0, .int .i64 10]))
set_option maxRecDepth 100000 in
set_option maxHeartbeats 1000000 in
theorem get_any {w : World} {g : Nat} {k : Option Nat} {l : List Nat} (ht : Tp.TapeAt w g k l .nilIface) (hs : Tp.Sml l) (hn : l.length ≤ 90000000) :
    Calls Tryz.prog 129 #[.pointer (some ⟨g, 0, none⟩)] w fun e w' => Tp.Kp (fun b => b = g) w w' ∧ TapeE w' g k (rdAll l).2.1 (rdAll l).2.2 ∧ RetGet w l e w' := by
  have hglt := ht.lt
  have HKL := Lib.hid ht.row_lt
  have HS := Lib.hid hs
  have H46 := tape_any (most := 6) (.inl ⟨rfl, ht⟩) hs hn
  rw [← rdN_int] at H46
  have H46 := Lib.hid H46
  have hN := rdN_le l
  have HEQ := Lib.hid (rdAll_eq l)
  clear ht hs
  obtain ⟨n, hnn⟩ : ∃ n, n = rdN l := ⟨_, rfl⟩
  have HNN := Lib.hid hnn
  rw [← hnn] at H46 hN
  clear hnn
  go_enter Tryz.func129, Tryz.ntmps129
  go_wp2_with fail
  refine H46.out.mono ?_
  rintro e w1 ⟨rfl, ht1, hk1⟩
  have HT1 : Hid (TapeE w1 g k (rd 0 (rd0 l)).2.1 (rd 0 (rd0 l)).2.2) := ht1
  have HK1 := Lib.hid hk1
  clear ht1 hk1 H46
  go_wp2_with fail
  go_loopg [4, 7] n (fun c v i wr => GetRel w g k l c v i wr)
  case atStart => exact ⟨0, by rw [HNN.out]; simp, rfl, HT1.out, World.ownsRow_nil _ _ _ _, HK1.out⟩
  case round =>
    obtain ⟨m, hmk, hi, htp, hrow, hkp⟩ := hrel
    subst hi
    have HT := Lib.hid htp
    have HROW := Lib.hid hrow
    have HK := Lib.hid hkp
    have hsz := hkp.size
    rw [← HNN.out] at hmk
    cases gk with
    | zero =>
      have hmn : m = n := by omega
      have HM : Hid (rd m (rd0 l) = rdAll l) := by rw [Hid, HEQ.out, hmn, HNN.out]
      have hge : ¬ m < n := by omega
      rw [HM.out] at htp hrow HT HROW
      obtain ⟨A4, c4, hv4, _⟩ := hrow.zs
      subst hv4
      rcases htp with ⟨hok, ht⟩ | ⟨hok, T, x, ht⟩
      · have H47 := Lib.hid (Tp.tape_err ht)
        have HOK := Lib.hid hok
        clear hrow hkp ht hok hmn hmk
        go_wp2_with (first | (go_at_call 126; refine H47.out.mono ?_; rintro e w' ⟨rfl, rfl⟩))
        go_ret2
        exact ⟨HK.out, HT.out, .inl ⟨HOK.out, _, rfl, HROW.out⟩⟩
      · have H47 := Lib.hid (Tp.tape_err ht)
        have HOK := Lib.hid hok
        clear hrow hkp ht hok hmn hmk
        go_wp2_with (first | (go_at_call 126; refine H47.out.mono ?_; rintro e w' ⟨rfl, rfl⟩))
        go_ret2
        exact ⟨HK.out, HT.out, .inr ⟨HOK.out, rfl⟩⟩
    | succ j =>
      have hm : m < n := by omega
      have hsm := rd_sml HS.out m
      have H46 := Lib.hid (tape_any (most := 1048576) htp hsm.1 (by omega))
      have HM := Lib.hid hmk
      obtain ⟨st, hst⟩ : ∃ st, st = rd m (rd0 l) := ⟨_, rfl⟩
      have HST := Lib.hid hst
      have hlen : st.1.length = m := by rw [hst]; exact (rd_wide l m).2
      rw [← hst] at H46 HROW HT
      obtain ⟨z, hz⟩ : ∃ z, z = (numStep st.2.1 st.2.2 1048576).1 := ⟨_, rfl⟩
      have HZ := Lib.hid hz
      rw [← hz] at H46
      clear hz hst htp hrow hkp hmk hsm
      go_wp2_with fail
      refine H46.out.mono ?_
      rintro e w2 ⟨rfl, ht2, hk2⟩
      have K3 : Hid (Tp.Kp (fun b => b = g) w w2) := HK.out.andThen hk2 (fun _ _ h => h)
      have R3 := Lib.hid (HROW.out.kp hk2 (fun j hj _ e => by omega))
      have T3 := Lib.hid ht2
      have hle : st.1.length + 1 ≤ 100000001 := by omega
      have hs3 := K3.out.size
      have hbase : w.heap.size ≤ (w2.alloc (.cells #[.int .i64 z] 3)).heap.size := by simp; omega
      clear hk2 ht2 H46
      go_wp2_with (first
        | (at_builtin; refine wpList_append_z rfl _ _ rfl w.heap.size _ st.1 rfl (World.ownsRow.alloc R3.out _) ⟨w2.heap.size, 0, none⟩ z rfl (cell_one_new _ _ _) hle hbase ?_))
      intro v' w4 hown hb4
      have R4 := Lib.hid hown
      have hall : Below w.heap.size w2 w4 := ((Below.refl _ _).alloc hs3 _).trans hb4
      have K4 : Hid (Tp.Kp (fun b => b = g) w w4) := ⟨hall.os.trans K3.out.os, hall.tape.trans K3.out.tape, hall.output.trans K3.out.output, Nat.le_trans K3.out.size hall.size, fun j hj hne => (hall.block j hj).trans (K3.out.block j hj hne)⟩
      have T4 := Lib.hid (T3.out.kp (S := fun j => w.heap.size ≤ j) ⟨hall.os, hall.tape, hall.output, hall.size, fun j _ hne => hall.block j (by omega)⟩ (by omega) (fun j hj => by have := HKL.out j hj; omega))
      clear hown hb4 hall
      go_wp2_with fail
      go_roundg j
      case measure => omega
      case rel =>
        refine ⟨m + 1, by have := HM.out; rw [← HNN.out]; omega, by go_num, ?_, ?_, K4.out⟩
        · rw [rd, rdStep_eq, ← HST.out]; exact T4.out
        · rw [rd, rdStep_eq, ← HST.out, ← HZ.out]; exact R4.out
end Go.Proofs.YtgcbfggoddkhnaaGreatDoor.Pa

namespace Go.Proofs.YtgcbfggoddkhnaaGreatDoor.Tp
open Go.RowKit
set_option maxRecDepth 100000 in
theorem tape_text_fault {w : World} {g : Nat} {k : Option Nat} {l : List Nat} {T : TypeId} {x : Value} {most : Int} (h : TapeAt w g k l (.iface T x)) :
    Calls Tryz.prog 132 #[.pointer (some ⟨g, 0, none⟩), .int .i64 most] w fun e w' => e = .returned (.string ⟨#[]⟩) ∧ w = w' := by
  have H := Lib.hid (tape_err h)
  clear h
  go_enter Tryz.func132, Tryz.ntmps132
  go_wp2_with (go_at_call 126; refine H.out.mono ?_; rintro e w' ⟨rfl, rfl⟩)
  go_ret
  exact ⟨rfl, rfl⟩
def NoTxt (l : List Nat) (most : Int) : Prop := ∀ s r : List Nat, l = enc s.length ++ (s ++ r) → s.length < 9223372036854775808 → most < (s.length : Int)
def TTxt (w : World) (g : Nat) (k : Option Nat) (l : List Nat) (most : Int) (e : Ending) (w' : World) : Prop :=
  Kp (fun b => b = g) w w' ∧ ((∃ s r : List Nat, l = enc s.length ++ (s ++ r) ∧ (s.length : Int) ≤ most ∧ e = .returned (.string (str s)) ∧ TapeAt w' g k r .nilIface) ∨
    (NoTxt l most ∧ e = .returned (.string ⟨#[]⟩) ∧ ∃ T x, TapeAt w' g k l (.iface T x)))
set_option maxRecDepth 100000 in
theorem Row.first {w : World} {k : Option Nat} {b o c : Nat} {p r : List Nat} (h : Row w k (some ⟨b, o, none⟩) c (p ++ r)) : Bts w w.heap.size (some ⟨b, o, none⟩) p := by
  intro _
  rcases h with ⟨h, _⟩ | ⟨b', o1, hA, hk, hb, h1, h2, hc⟩
  · cases h
  · injection hA with hA
    injection hA with e1 e2
    subst e1 e2
    exact ⟨b, o, rfl, hb, fun i d hi => hc i d (by rw [List.getElem?_append_left (List.getElem?_eq_some_iff.1 hi).1]; exact hi)⟩
set_option maxRecDepth 100000 in
theorem tape_text {w : World} {g : Nat} {k : Option Nat} {l : List Nat} {most : Int} (h : TapeAt w g k l .nilIface) (hs : Sml l) (hn : l.length ≤ 90000000) :
    Calls Tryz.prog 132 #[.pointer (some ⟨g, 0, none⟩), .int .i64 most] w (TTxt w g k l most) := by
  have H20 := Lib.hid (tape_err h)
  have H14 := Lib.hid (tape_number (most := most) h hs hn)
  have hglt := h.lt
  obtain ⟨A, c, h1, h2, h3, h4, h5, h6⟩ := h
  have HR := Lib.hid h5
  have HG := Lib.hid h6
  clear h5 h6 h2 h3 h4
  obtain ⟨len, hlen⟩ : ∃ len, len = l.length := ⟨_, rfl⟩
  rw [← hlen] at h1
  have HLen := Lib.hid hlen
  clear hlen
  go_enter Tryz.func132, Tryz.ntmps132
  go_wp2_with (go_at_call 126; refine H20.out.mono ?_; rintro e w' ⟨rfl, rfl⟩)
  refine H14.out.mono ?_
  rintro e w1 ⟨hkp, ⟨n, r, hl, hle, hlt, rfl, ht⟩ | ⟨hno, rfl, T, x, ht⟩⟩
  · have HT := Lib.hid ht
    have HK := Lib.hid hkp
    have hg1 := ht.lt
    obtain ⟨A1, c1, i1, i2, i3, i4, i5, i6⟩ := ht
    have HR1 := Lib.hid i5
    have hrl : r.length ≤ 90000000 := by
      have := congrArg List.length hl
      rw [List.length_append] at this
      omega
    clear i5 i6 hkp
    by_cases hgt : r.length < n
    · have H22 := Lib.hid (fun W => new_new ⟨#[116, 97, 112, 101]⟩ 11 W rfl)
      have HL := Lib.hid hl
      clear hl
      go_wp2_with (go_at_call 128; refine (H22.out _).mono ?_; rintro e w' ⟨rfl, rfl⟩)
      go_ret
      have hrow := (HR.out.kp HK.out (fun j hj e => by subst e; exact HG.out hj)).kp (Kp.setCell (S := fun b => b = g) (p := ⟨g, 1, none⟩) (Kp.refl _ _) (fun _ => rfl) (.iface 236 (.pointer (some ⟨w1.heap.size, 0, none⟩)))) (fun j hj e => by subst e; exact HG.out hj)
      refine ⟨((HK.out.setCell (fun _ => rfl) _).setCell (fun _ => rfl) _).alloc _, .inr ⟨fun s r' h hs => ?_, rfl, 236, _, ((HT.out.setErr _).setLeft hrow HLen.out).alloc _⟩⟩
      rw [HL.out] at h
      obtain ⟨e1, e2⟩ := enc_prefix h
      rw [e2, List.length_append] at hgt
      omega
    · obtain ⟨s, r2, rfl, hsn⟩ : ∃ s r2, r = s ++ r2 ∧ s.length = n := ⟨r.take n, r.drop n, by simp, by simp; omega⟩
      subst hsn
      rw [List.length_append] at i1
      cases A1 with
      | none =>
        rcases HR1.out with ⟨_, _, hk, _⟩ | ⟨b, o, h, _⟩
        · rcases HR.out with ⟨_, _, _, h⟩ | ⟨b, o, _, hk2, _⟩
          · rw [h] at hl
            have h0 := congrArg List.length hl
            have h1 := enc_pos s.length
            rw [List.length_append] at h0
            simp at h0
            omega
          · rw [hk] at hk2; cases hk2
        · cases h
      | some a1 =>
        rcases HR1.out with ⟨h, _⟩ | ⟨b, o, hA, hk, hb, hlc, hcm, _⟩
        · cases h
        · injection hA with hA
          subst hA
          rw [List.length_append] at hlc
          obtain ⟨o', ho', hsl⟩ := slice_from b o s.length r2.length c1 hlc
          have hst := slice_to b o s.length r2.length c1 hlc
          have hcv := conv_str HR1.out.first c1
          have HO := Lib.hid ho'
          have HL := Lib.hid hl
          have HLe := Lib.hid hle
          clear ho' hl hle hk
          go_wp2_with fail
          go_ret
          exact ⟨HK.out.setCell (fun _ => rfl) _, .inl ⟨s, r2, HL.out, HLe.out, rfl, HT.out.setLeft (HR1.out.rest HO.out) rfl⟩⟩
  · have HT := Lib.hid ht
    have HK := Lib.hid hkp
    have HN := Lib.hid hno
    obtain ⟨A1, c1, i1, i2, i3, i4, i5, i6⟩ := ht
    clear i5 i6 hkp hno
    go_wp2_with fail
    go_ret
    exact ⟨HK.out, .inr ⟨fun s r h hs => HN.out s.length (s ++ r) h hs, rfl, T, x, HT.out⟩⟩
end Go.Proofs.YtgcbfggoddkhnaaGreatDoor.Tp

namespace Go.Proofs.YtgcbfggoddkhnaaGreatDoor
open Go.RowKit
def catBytes (x : List UInt8) : List Nat := Tp.txt (str x)
def ownBytes (l : List (List UInt8)) : List Nat := Tp.enc l.length ++ l.flatMap catBytes
theorem catBytes_len {x : List UInt8} (h : x.length ≤ 3000) : (catBytes x).length ≤ 3009 := by
  have h1 := Tp.enc_nine (n := x.length) (by omega)
  unfold catBytes Tp.txt
  rw [List.length_append, Tp.bys_length, str_size]
  omega
theorem flatC_len : ∀ l : List (List UInt8), (∀ x ∈ l, x.length ≤ 3000) → (l.flatMap catBytes).length ≤ 3009 * l.length
  | [], _ => by simp
  | x :: r, h => by
    have h1 := flatC_len r fun e he => h e (List.mem_cons_of_mem _ he)
    have h2 := catBytes_len (h x (by simp))
    rw [List.flatMap_cons, List.length_append, List.length_cons]
    omega
def PenB (w : World) (B g : Nat) (l : List Nat) : Prop := ∃ k, Tp.PenAt w g k l ∧ B ≤ g ∧ ∀ j, k = some j → B ≤ j
theorem PenB.step {w w' : World} {B g : Nat} {k : Option Nat} {l' : List Nat} (hg : B ≤ g) (hk : ∀ j, k = some j → B ≤ j) (hs : B ≤ w.heap.size) (h : Tp.Wrote w g k l' w') : PenB w' B g l' ∧ Below B w w' := by
  obtain ⟨k0, h1, h2, h3⟩ := h
  refine ⟨⟨k0, h1, hg, fun j hj => ?_⟩, h3.below hs fun i hi => ?_⟩
  · rcases h2 with h | ⟨i, h, hi⟩
    · exact hk j (h.symm.trans hj)
    · rw [h] at hj
      injection hj with hj
      omega
  · rcases hi with rfl | hi
    · exact hg
    · exact hk i hi
theorem PenB.kept {w w' : World} {B g : Nat} {l : List Nat} (h : PenB w B g l) (hb : Below w.heap.size w w') : PenB w' B g l := by
  obtain ⟨k, h1, h2, h3⟩ := h
  exact ⟨k, h1.kp (Tp.Kp.of_below hb (fun _ => False)) (fun h => h) (fun _ _ h => h), h2, h3⟩
def PutRel (w : World) (B g : Nat) (l : List (List UInt8)) (k : Nat) (i : Value) (wr : World) : Prop :=
  ∃ m, m + k = l.length ∧ i = .int .i64 (m : Int) ∧ PenB wr B g (Tp.enc l.length ++ (l.take m).flatMap catBytes) ∧ Below B w wr
set_option maxRecDepth 100000 in
set_option maxHeartbeats 1000000 in
theorem put_any {w : World} {B g : Nat} {A : Option Addr} {c : Nat} {l : List (List UInt8)} (hp : PenB w B g []) (hs : B ≤ w.heap.size) (hl : Strs w B A l) (hn : l.length ≤ 30) (hx : ∀ x ∈ l, x.length ≤ 3000) :
    Calls Tryz.prog 54 #[.pointer (some ⟨g, 0, none⟩), .slice A l.length c] w fun e w' => e = .returned (.tuple #[]) ∧ PenB w' B g (ownBytes l) ∧ Below B w w' := by
  have HL := Lib.hid hl
  have HX := Lib.hid hx
  obtain ⟨k0, hp0, hg, hk0⟩ := hp
  have HN := Lib.hid (Tp.pen_number (n := l.length) hp0 (by omega) (by simp))
  have HK0 := Lib.hid hk0
  have HGL := Lib.hid (Tp.enc_nine (n := l.length) (by omega))
  clear hl hx hp0 hk0
  go_enter Tryz.func54, Tryz.ntmps54
  go_wp2_with fail
  refine HN.out.mono ?_
  rintro e w1 ⟨rfl, hw⟩
  obtain ⟨P1, hb1⟩ := PenB.step hg HK0.out hs hw
  have HP1 := Lib.hid P1
  have B1 := Lib.hid hb1
  clear hw P1 hb1 HN
  go_wp2_with fail
  go_loopg [12] l.length (fun k i wr => PutRel w B g l k i wr)
  case atStart => exact ⟨0, by simp, rfl, by simpa using HP1.out, B1.out⟩
  case round =>
    obtain ⟨m, hmk, hi, hpen, hb⟩ := hrel
    subst hi
    have HB := Lib.hid hb
    have hsz := hb.size
    cases gk with
    | zero =>
      have hge : l.length ≤ m := by omega
      have HF : Hid (PenB wr B g (ownBytes l)) := by
        have := hpen
        rw [List.take_of_length_le hge] at this
        exact this
      clear hpen hb
      go_wp2_with fail
      go_end0
      exact ⟨rfl, HF.out, HB.out⟩
    | succ j =>
      have hm : m < l.length := by omega
      obtain ⟨t, hx⟩ : ∃ x, l[m]? = some x := ⟨_, List.getElem?_eq_getElem hm⟩
      obtain ⟨b, o, rfl, hlt, hcells⟩ := (HL.out.below hb) (by omega)
      have c1 := hcells m t hx
      have HM := Lib.hid hmk
      have htl : t.length ≤ 3000 := HX.out _ (List.mem_of_getElem? hx)
      obtain ⟨k1, hpw, _, hk1⟩ := hpen
      obtain ⟨pb, hpb⟩ : ∃ pb, pb = Tp.enc l.length ++ (l.take m).flatMap catBytes := ⟨_, rfl⟩
      rw [← hpb] at hpw
      have hpl : pb.length ≤ 60000000 := by
        have h1 := HGL.out
        have h2 := flatC_len (l.take m) fun e he => HX.out e (List.mem_of_mem_take he)
        rw [List.length_take] at h2
        rw [hpb, List.length_append]
        have : 3009 * min m l.length ≤ 3009 * 30 := Nat.mul_le_mul_left _ (by omega)
        omega
      have HPB : Hid (pb ++ Tp.txt (str t) = Tp.enc l.length ++ (l.take (m + 1)).flatMap catBytes) := by
        unfold Hid
        rw [List.take_add_one, hx, List.flatMap_append, hpb]
        simp [catBytes]
      have hs0 : B ≤ wr.heap.size := by have := HB.out.size; omega
      have H39 := Lib.hid (Tp.pen_text hpw (by omega) (str t) (by rw [str_size]; exact htl))
      have HK1 := Lib.hid hk1
      clear hcells hx hmk hb hk1 hpb hpw
      go_wp2_with fail
      refine H39.out.mono ?_
      rintro e w2 ⟨rfl, hw⟩
      obtain ⟨P2, hb2⟩ := PenB.step hg HK1.out hs0 hw
      have B2 : Hid (Below B w w2) := HB.out.trans hb2
      have HP2 : Hid (PenB w2 B g (Tp.enc l.length ++ (l.take (m + 1)).flatMap catBytes)) := by rw [← HPB.out]; exact P2
      clear hw hb2 H39 P2 c1
      go_wp2_with fail
      go_roundg j
      case measure => omega
      case rel => exact ⟨m + 1, by have := HM.out; omega, by go_num, HP2.out, B2.out⟩
end Go.Proofs.YtgcbfggoddkhnaaGreatDoor

namespace Go.Proofs.YtgcbfggoddkhnaaGreatDoor
open Go.RowKit
open Pa (numStep encZ zBytes)
abbrev St := List Nat × Bool
noncomputable def nS (most : Int) (s : St) : Int × St := numStep s.1 s.2 most
noncomputable def txtAt (l : List Nat) (most : Int) : Option (List Nat × List Nat) :=
  open Classical in if h : ∃ x : List Nat × List Nat, l = Tp.enc x.1.length ++ (x.1 ++ x.2) ∧ (x.1.length : Int) ≤ most ∧ x.1.length < 9223372036854775808 then some h.choose else none
theorem txtAt_some {l s r : List Nat} {most : Int} (h : l = Tp.enc s.length ++ (s ++ r)) (h1 : (s.length : Int) ≤ most) (h2 : s.length < 9223372036854775808) : txtAt l most = some (s, r) := by
  have hx : ∃ x : List Nat × List Nat, l = Tp.enc x.1.length ++ (x.1 ++ x.2) ∧ (x.1.length : Int) ≤ most ∧ x.1.length < 9223372036854775808 := ⟨(s, r), h, h1, h2⟩
  unfold txtAt
  rw [dif_pos hx]
  have hc := hx.choose_spec
  have e := Tp.enc_prefix (hc.1.symm.trans h)
  have e2 := List.append_inj e.2 e.1
  congr 1
  exact Prod.ext e2.1 e2.2
theorem txtAt_none {l : List Nat} {most : Int} (h : Tp.NoTxt l most) : txtAt l most = none := by
  unfold txtAt
  rw [dif_neg]
  rintro ⟨⟨s, r⟩, h1, h2, h3⟩
  have := h s r h1 h3
  simp at h2
  omega
theorem txtAt_spec {l : List Nat} {most : Int} {x : List Nat × List Nat} (h : txtAt l most = some x) : l = Tp.enc x.1.length ++ (x.1 ++ x.2) ∧ (x.1.length : Int) ≤ most ∧ x.1.length < 9223372036854775808 := by
  unfold txtAt at h
  split at h
  · rename_i hx
    injection h with h
    rw [← h]
    exact hx.choose_spec
  · cases h
noncomputable def tS (most : Int) (s : St) : List Nat × St :=
  if s.2 then
    match txtAt s.1 most with
    | some x => (x.1, x.2, true)
    | none => ([], s.1, false)
  else ([], s.1, false)
theorem tS_some {l s r : List Nat} {most : Int} (h : l = Tp.enc s.length ++ (s ++ r)) (h1 : (s.length : Int) ≤ most) (h2 : s.length < 9223372036854775808) : tS most (l, true) = (s, r, true) := by
  unfold tS
  rw [if_pos rfl]
  simp only
  rw [txtAt_some h h1 h2]
theorem tS_none {l : List Nat} {most : Int} (h : Tp.NoTxt l most) : tS most (l, true) = ([], l, false) := by
  unfold tS
  rw [if_pos rfl]
  simp only
  rw [txtAt_none h]
theorem tS_no (l : List Nat) (most : Int) : tS most (l, false) = ([], l, false) := rfl
structure Reads {α : Type} (f : St → α × St) (enc : α → List Nat) (P : α → Prop) : Prop where
  sound : ∀ s : St, Tp.Sml s.1 → (f s).2.2 = true → s.2 = true ∧ s.1 = enc (f s).1 ++ (f s).2.1 ∧ P (f s).1
  full : ∀ (x : α) (r : List Nat), P x → f (enc x ++ r, true) = (x, r, true)
  less : ∀ s : St, ∃ p, s.1 = p ++ (f s).2.1
  stuck : ∀ l : List Nat, (f (l, false)).2 = (l, false)
theorem Reads.len {α : Type} {f : St → α × St} {enc : α → List Nat} {P : α → Prop} (h : Reads f enc P) (s : St) : (f s).2.1.length ≤ s.1.length := by
  obtain ⟨p, hp⟩ := h.less s
  have := congrArg List.length hp
  rw [List.length_append] at this
  omega
theorem Reads.sml {α : Type} {f : St → α × St} {enc : α → List Nat} {P : α → Prop} (h : Reads f enc P) {s : St} (hs : Tp.Sml s.1) : Tp.Sml (f s).2.1 := fun c hc => by
  obtain ⟨p, hp⟩ := h.less s
  exact hs c (by rw [hp]; exact List.mem_append_right _ hc)
theorem nS_reads {most : Int} (h : most ≤ 4611686018427387903) : Reads (nS most) encZ fun z => 0 ≤ z ∧ z ≤ most where
  sound := by
    rintro ⟨l, ok⟩ hsm hk
    unfold nS at hk ⊢
    cases ok with
    | false => cases hk
    | true =>
      unfold numStep at hk ⊢
      rw [if_pos rfl] at hk ⊢
      cases hn : Pa.numAt l most with
      | none => simp only [hn] at hk; cases hk
      | some x =>
        simp only
        have hx := Pa.numAt_spec hn
        refine ⟨trivial, ?_, by omega, hx.2.1⟩
        unfold encZ
        rw [if_pos (by omega)]
        simpa using hx.1
  full := by
    intro x r hx
    unfold nS encZ
    rw [if_pos (by omega)]
    have := Pa.numStep_some (l := Tp.enc x.toNat ++ r) (most := most) rfl (by omega) (by omega)
    rw [this]
    simp only [Prod.mk.injEq, and_true]
    omega
  less := fun s => Pa.numStep_end _ _ _
  stuck := fun l => rfl
theorem tS_reads {most : Int} (h : most ≤ 4611686018427387903) : Reads (tS most) (fun s => Tp.enc s.length ++ s) fun s => (s.length : Int) ≤ most ∧ Tp.Sml s where
  sound := by
    rintro ⟨l, ok⟩ hsm hk
    cases ok with
    | false => cases hk
    | true =>
      unfold tS at hk ⊢
      rw [if_pos rfl] at hk ⊢
      cases hn : txtAt l most with
      | none => simp only [hn] at hk; cases hk
      | some x =>
        simp only
        have hx := txtAt_spec hn
        exact ⟨trivial, by rw [List.append_assoc]; exact hx.1, hx.2.1, fun c hc => hsm c (by rw [hx.1]; exact List.mem_append_right _ (List.mem_append_left _ hc))⟩
  full := fun x r hx => tS_some (by rw [List.append_assoc]) hx.1 (by have := hx.1; omega)
  less := by
    rintro ⟨l, ok⟩
    cases ok with
    | false => exact ⟨[], rfl⟩
    | true =>
      unfold tS
      rw [if_pos rfl]
      cases hn : txtAt l most with
      | none => exact ⟨[], rfl⟩
      | some x => exact ⟨Tp.enc x.1.length ++ x.1, by simp only; rw [List.append_assoc]; exact (txtAt_spec hn).1⟩
  stuck := fun l => rfl
noncomputable def many {α : Type} (f : St → α × St) : Nat → St → List α × St
  | 0, s => ([], s)
  | n + 1, s => ((many f n s).1 ++ [(f (many f n s).2).1], (f (many f n s).2).2)
theorem many_len {α : Type} (f : St → α × St) (s : St) : ∀ n, (many f n s).1.length = n
  | 0 => rfl
  | n + 1 => by rw [many]; simp [many_len f s n]
theorem many_full {α : Type} {f : St → α × St} {enc : α → List Nat} {P : α → Prop} (h : Reads f enc P) (xs : List α) (r : List Nat) (hx : ∀ x ∈ xs, P x) : ∀ m, m ≤ xs.length → many f m (xs.flatMap enc ++ r, true) = (xs.take m, (xs.drop m).flatMap enc ++ r, true)
  | 0, _ => by simp [many]
  | m + 1, hm => by
    have hlt : m < xs.length := by omega
    have e : xs.drop m = xs[m] :: xs.drop (m + 1) := List.drop_eq_getElem_cons hlt
    have h1 := h.full xs[m] ((xs.drop (m + 1)).flatMap enc ++ r) (hx _ (List.getElem_mem hlt))
    rw [many, many_full h xs r hx m (by omega)]
    simp only
    rw [e, List.flatMap_cons, List.append_assoc, h1, List.take_add_one, List.getElem?_eq_getElem hlt]
    rfl
theorem many_less {α : Type} {f : St → α × St} {enc : α → List Nat} {P : α → Prop} (h : Reads f enc P) (s : St) : ∀ n, ∃ p, s.1 = p ++ (many f n s).2.1
  | 0 => ⟨[], rfl⟩
  | n + 1 => by
    obtain ⟨p, hp⟩ := many_less h s n
    obtain ⟨q, hq⟩ := h.less (many f n s).2
    refine ⟨p ++ q, ?_⟩
    rw [many]
    simp only
    rw [List.append_assoc, ← hq]
    exact hp
theorem many_sml {α : Type} {f : St → α × St} {enc : α → List Nat} {P : α → Prop} (h : Reads f enc P) {s : St} (hs : Tp.Sml s.1) (n : Nat) : Tp.Sml (many f n s).2.1 ∧ (many f n s).2.1.length ≤ s.1.length := by
  obtain ⟨p, hp⟩ := many_less h s n
  refine ⟨fun c hc => hs c (by rw [hp]; exact List.mem_append_right _ hc), ?_⟩
  have := congrArg List.length hp
  rw [List.length_append] at this
  omega
theorem many_reads {α : Type} {f : St → α × St} {enc : α → List Nat} {P : α → Prop} (h : Reads f enc P) (n : Nat) : Reads (many f n) (fun xs => xs.flatMap enc) fun xs => xs.length = n ∧ ∀ x ∈ xs, P x where
  sound := by
    induction n with
    | zero => exact fun s _ hs => ⟨hs, rfl, rfl, fun x hx => by cases hx⟩
    | succ n ih =>
      intro s hsm hs
      rw [many] at hs ⊢
      simp only at hs ⊢
      obtain ⟨h1, h2, h3⟩ := h.sound _ (many_sml h hsm n).1 hs
      obtain ⟨h4, h5, h6, h7⟩ := ih s hsm h1
      refine ⟨h4, ?_, by simp [h6], fun x hx => ?_⟩
      · rw [List.flatMap_append, List.append_assoc]
        simp only [List.flatMap_cons, List.flatMap_nil, List.append_nil]
        rw [← h2]
        exact h5
      · rcases List.mem_append.1 hx with hx | hx
        · exact h7 x hx
        · simp at hx; subst hx; exact h3
  full := fun xs r hx => by
    have := many_full h xs r hx.2 xs.length (Nat.le_refl _)
    rw [← hx.1, this]
    simp
  less := fun s => many_less h s n
  stuck := by
    induction n with
    | zero => exact fun l => rfl
    | succ n ih =>
      intro l
      rw [many]
      simp only
      rw [ih, h.stuck]
theorem Reads.and {α β : Type} {f : St → α × St} {g : St → β × St} {ea : α → List Nat} {eb : β → List Nat} {P : α → Prop} {Q : β → Prop} (hf : Reads f ea P) (hg : Reads g eb Q) :
    Reads (fun s => (((f s).1, (g (f s).2).1), (g (f s).2).2)) (fun x => ea x.1 ++ eb x.2) fun x => P x.1 ∧ Q x.2 where
  sound := fun s hsm hs => by
    obtain ⟨h1, h2, h3⟩ := hg.sound _ (hf.sml hsm) hs
    obtain ⟨h4, h5, h6⟩ := hf.sound _ hsm h1
    exact ⟨h4, by simp only; rw [List.append_assoc, ← h2]; exact h5, h6, h3⟩
  full := fun x r hx => by
    try simp only
    rw [List.append_assoc, hf.full _ _ hx.1]
    try simp only
    rw [hg.full _ _ hx.2]
  less := fun s => by
    obtain ⟨p, hp⟩ := hf.less s
    obtain ⟨q, hq⟩ := hg.less (f s).2
    exact ⟨p ++ q, by simp only; rw [List.append_assoc, ← hq]; exact hp⟩
  stuck := fun l => by simp only; rw [hf.stuck, hg.stuck]
theorem Reads.iso {α β : Type} {f : St → α × St} {ea : α → List Nat} {P : α → Prop} (hf : Reads f ea P) (to : α → β) (from' : β → α) {eb : β → List Nat} {Q : β → Prop} (h1 : ∀ x, P x → eb (to x) = ea x) (h2 : ∀ x, P x → Q (to x)) (h3 : ∀ y, Q y → P (from' y) ∧ ea (from' y) = eb y ∧ to (from' y) = y) :
    Reads (fun s => (to (f s).1, (f s).2)) eb Q where
  sound := fun s hsm hs => by
    obtain ⟨a, b, c⟩ := hf.sound s hsm hs
    exact ⟨a, by simp only; rw [h1 _ c]; exact b, h2 _ c⟩
  full := fun y r hy => by
    obtain ⟨a, b, c⟩ := h3 y hy
    try simp only
    rw [← b, hf.full _ _ a]
    simp only
    rw [c]
  less := hf.less
  stuck := fun l => by simp only; rw [hf.stuck]
noncomputable def cntS {α : Type} (most : Int) (f : St → α × St) (s : St) : List α × St := many f (nS most s).1.toNat (nS most s).2
theorem cntS_reads {α : Type} {f : St → α × St} {enc : α → List Nat} {P : α → Prop} (h : Reads f enc P) {most : Int} (h0 : 0 ≤ most) (hm : most ≤ 4611686018427387903) :
    Reads (cntS most f) (fun xs => Tp.enc xs.length ++ xs.flatMap enc) fun xs => (xs.length : Int) ≤ most ∧ ∀ x ∈ xs, P x where
  sound := fun s hsm hs => by
    have h1 := (many_reads h _).sound _ ((nS_reads hm).sml hsm) hs
    have h2 := (nS_reads hm).sound _ hsm h1.1
    unfold cntS
    have h3 : encZ (nS most s).1 = Tp.enc (many f (nS most s).1.toNat (nS most s).2).1.length := by
      unfold encZ
      rw [if_pos (by have := h2.2.2; omega), h1.2.2.1]
    refine ⟨h2.1, ?_, ?_, h1.2.2.2⟩
    · rw [List.append_assoc, ← h3, ← h1.2.1]
      exact h2.2.1
    · rw [h1.2.2.1]
      have := h2.2.2
      omega
  full := fun xs r hx => by
    unfold cntS
    have h1 := (nS_reads hm).full (xs.length : Int) (xs.flatMap enc ++ r) ⟨by omega, hx.1⟩
    have h3 : encZ (xs.length : Int) = Tp.enc xs.length := by
      unfold encZ
      rw [if_pos (by have := hx.1; omega), Int.toNat_natCast]
    rw [h3] at h1
    rw [List.append_assoc, h1]
    simp only [Int.toNat_natCast]
    exact (many_reads h xs.length).full xs r ⟨rfl, hx.2⟩
  less := fun s => by
    obtain ⟨p, hp⟩ := (nS_reads hm).less s
    obtain ⟨q, hq⟩ := (many_reads h (nS most s).1.toNat).less (nS most s).2
    exact ⟨p ++ q, by unfold cntS; rw [List.append_assoc, ← hq]; exact hp⟩
  stuck := fun l => by
    unfold cntS
    rw [show (nS most (l, false)).2 = (l, false) from rfl, (many_reads h _).stuck]
def cat (l : List Nat) : List UInt8 := l.map UInt8.ofNat
theorem cat_bys {l : List Nat} (h : Tp.Sml l) : Tp.bys (str (cat l)) = l := by
  unfold Tp.bys cat
  rw [show (str (l.map UInt8.ofNat)).data.toList = l.map UInt8.ofNat from str_list _, List.map_map]
  refine (List.map_congr_left fun c hc => ?_).trans (List.map_id l)
  have := h c hc
  simp only [Function.comp_def, id]
  rw [UInt8.toNat_ofNat']
  omega
theorem cat_str {l : List Nat} (h : Tp.Sml l) : Tp.str l = str (cat l) := by
  rw [← cat_bys h, Tp.str_bys, cat_bys h]
theorem bys_cat (x : List UInt8) : cat (Tp.bys (str x)) = x := by
  unfold cat Tp.bys
  rw [str_list, List.map_map]
  refine (List.map_congr_left fun c _ => ?_).trans (List.map_id x)
  simp
theorem catl_len (l : List Nat) : (cat l).length = l.length := by simp [cat]
theorem bys_len (x : List UInt8) : (Tp.bys (str x)).length = x.length := by rw [Tp.bys_length, str_size]
theorem txt_eq (x : List UInt8) : Tp.txt (str x) = Tp.enc (Tp.bys (str x)).length ++ Tp.bys (str x) := by
  unfold Tp.txt
  rw [Tp.bys_length]
def entBytes (e : Ent) : List Nat := Tp.txt (str e.1) ++ encZ e.2
def labBytes (l : List Ent) : List Nat := Tp.enc l.length ++ l.flatMap entBytes
def kidBytes (k : Kd) : List Nat := encZ k.1 ++ (encZ k.2.1 ++ encZ k.2.2)
def mapBytes (m : Mp) : List Nat := encZ m.1 ++ (zBytes m.2.1 ++ encZ (if m.2.2 then 1 else 0))
def obBytes (o : Ob) : List Nat :=
  encZ o.kind ++ (labBytes o.lab ++ ((Tp.enc o.kids.length ++ o.kids.flatMap kidBytes) ++ (encZ o.next ++ ((Tp.enc o.bytes.length ++ o.bytes) ++ (ownBytes o.own ++ (encZ o.cats ++ (labBytes o.entry ++ (encZ o.ring ++ (Tp.enc o.maps.length ++ o.maps.flatMap mapBytes)))))))))
noncomputable def pathS (s : St) : List Int × St := cntS 6 (nS 1048576) s
theorem pathS_reads : Reads pathS zBytes Pa.PathOk := by
  have h := cntS_reads (nS_reads (most := 1048576) (by omega)) (most := 6) (by omega) (by omega)
  refine ⟨fun s h1 h2 => ?_, fun x r hx => ?_, h.less, h.stuck⟩
  · obtain ⟨a, b, c, d⟩ := h.sound s h1 h2
    exact ⟨a, b, by unfold pathS; omega, d⟩
  · exact h.full x r ⟨by have := hx.1; omega, hx.2⟩
theorem rd_many (s : St) : ∀ m, Pa.rd m ([], s.1, s.2) = many (nS 1048576) m s
  | 0 => rfl
  | m + 1 => by
    rw [Pa.rd, rd_many s m, Pa.rdStep_eq]
    rfl
theorem pathS_rd (l : List Nat) : Pa.rdAll l = pathS (l, true) := by
  rw [Pa.rdAll_eq]
  unfold pathS cntS Pa.rdN
  rw [show Pa.rd0 l = ([], (nS 6 (l, true)).2.1, (nS 6 (l, true)).2.2) from rfl, rd_many]
  rfl
theorem pathS_no (l : List Nat) : pathS (l, false) = ([], l, false) := rfl
noncomputable def entS (s : St) : Ent × St := ((cat (tS 80 s).1, (nS 3 (tS 80 s).2).1), (nS 3 (tS 80 s).2).2)
theorem entS_reads : Reads entS entBytes fun e => e.1.length ≤ 80 ∧ 0 ≤ e.2 ∧ e.2 ≤ 3 := by
  refine ((tS_reads (most := 80) (by omega)).and (nS_reads (most := 3) (by omega))).iso (fun x => (cat x.1, x.2)) (fun e => (Tp.bys (str e.1), e.2)) (fun x hx => ?_) (fun x hx => ?_) (fun e he => ?_)
  · unfold entBytes
    rw [txt_eq, cat_bys hx.1.2]
  · exact ⟨by rw [catl_len]; have := hx.1.1; omega, hx.2⟩
  · refine ⟨⟨⟨by rw [bys_len]; omega, Tp.bys_sml _⟩, he.2⟩, ?_, ?_⟩
    · unfold entBytes
      rw [txt_eq]
    · simp only [bys_cat]
noncomputable def labS (s : St) : List Ent × St := cntS 8 entS s
theorem labS_reads : Reads labS labBytes fun l => (l.length : Int) ≤ 8 ∧ ∀ e ∈ l, e.1.length ≤ 80 ∧ 0 ≤ e.2 ∧ e.2 ≤ 3 := cntS_reads entS_reads (by omega) (by omega)
noncomputable def ctS (s : St) : List UInt8 × St := (cat (tS 80 s).1, (tS 80 s).2)
theorem ctS_reads : Reads ctS catBytes fun x => x.length ≤ 80 := by
  refine (tS_reads (most := 80) (by omega)).iso cat (fun x => Tp.bys (str x)) (fun x hx => ?_) (fun x hx => ?_) (fun e he => ?_)
  · unfold catBytes
    rw [txt_eq, cat_bys hx.2]
  · rw [catl_len]; have := hx.1; omega
  · refine ⟨⟨by rw [bys_len]; omega, Tp.bys_sml _⟩, ?_, bys_cat e⟩
    unfold catBytes
    rw [txt_eq]
noncomputable def ownS (s : St) : List (List UInt8) × St := cntS 8 ctS s
theorem ownS_reads : Reads ownS ownBytes fun l => (l.length : Int) ≤ 8 ∧ ∀ x ∈ l, x.length ≤ 80 := cntS_reads ctS_reads (by omega) (by omega)
noncomputable def kidS (s : St) : Kd × St := (((nS 1048576 s).1, (nS 5 (nS 1048576 s).2).1, (nS 1048576 (nS 5 (nS 1048576 s).2).2).1), (nS 1048576 (nS 5 (nS 1048576 s).2).2).2)
theorem kidS_reads : Reads kidS kidBytes fun k => (0 ≤ k.1 ∧ k.1 ≤ 1048576) ∧ (0 ≤ k.2.1 ∧ k.2.1 ≤ 5) ∧ 0 ≤ k.2.2 ∧ k.2.2 ≤ 1048576 :=
  (nS_reads (by omega)).and ((nS_reads (by omega)).and (nS_reads (by omega)))
noncomputable def flagS (s : St) : Bool × St := (decide ((nS 1 s).1 = 1), (nS 1 s).2)
theorem flagS_reads : Reads flagS (fun b => encZ (if b then 1 else 0)) fun _ => True := by
  refine (nS_reads (most := 1) (by omega)).iso (fun z => decide (z = 1)) (fun b => if b then 1 else 0) (fun x hx => ?_) (fun _ _ => trivial) (fun b _ => ?_)
  · by_cases h : x = 1
    · subst h; rfl
    · have : x = 0 := by omega
      subst this; rfl
  · cases b
    · exact ⟨by decide, rfl, rfl⟩
    · exact ⟨by decide, rfl, rfl⟩
noncomputable def mapS (s : St) : Mp × St := (((nS 1048576 s).1, (pathS (nS 1048576 s).2).1, (flagS (pathS (nS 1048576 s).2).2).1), (flagS (pathS (nS 1048576 s).2).2).2)
theorem mapS_reads : Reads mapS mapBytes fun m => (0 ≤ m.1 ∧ m.1 ≤ 1048576) ∧ Pa.PathOk m.2.1 ∧ True :=
  (nS_reads (by omega)).and (pathS_reads.and flagS_reads)
noncomputable def kidsS (s : St) : List Kd × St := cntS 16 kidS s
noncomputable def mapsS (s : St) : List Mp × St := cntS 4 mapS s
theorem kidsS_reads : Reads kidsS (fun l => Tp.enc l.length ++ l.flatMap kidBytes) fun l => (l.length : Int) ≤ 16 ∧ ∀ k ∈ l, (0 ≤ k.1 ∧ k.1 ≤ 1048576) ∧ (0 ≤ k.2.1 ∧ k.2.1 ≤ 5) ∧ 0 ≤ k.2.2 ∧ k.2.2 ≤ 1048576 := cntS_reads kidS_reads (by omega) (by omega)
theorem mapsS_reads : Reads mapsS (fun l => Tp.enc l.length ++ l.flatMap mapBytes) fun l => (l.length : Int) ≤ 4 ∧ ∀ m ∈ l, (0 ≤ m.1 ∧ m.1 ≤ 1048576) ∧ Pa.PathOk m.2.1 ∧ True := cntS_reads mapS_reads (by omega) (by omega)
structure ObS (s : St) where
  kind : Int × St := nS 5 s
  lab : List Ent × St := labS kind.2
  kids : List Kd × St := kidsS lab.2
  next : Int × St := nS 1048577 kids.2
  bytes : List Nat × St := tS 256 next.2
  own : List (List UInt8) × St := ownS bytes.2
  cats : Int × St := nS 65536 own.2
  entry : List Ent × St := labS cats.2
  ring : Int × St := nS 1048576 entry.2
  maps : List Mp × St := mapsS ring.2
noncomputable def obS (s : St) : ObS s := {}
noncomputable def objS (s : St) : Ob × St := (⟨(obS s).kind.1, (obS s).lab.1, (obS s).kids.1, (obS s).next.1, (obS s).bytes.1, (obS s).own.1, (obS s).cats.1, (obS s).entry.1, (obS s).ring.1, (obS s).maps.1⟩, (obS s).maps.2)
structure ReadO (o : Ob) : Prop where
  kind : 0 ≤ o.kind ∧ o.kind ≤ 5
  lab : (o.lab.length : Int) ≤ 8 ∧ ∀ e ∈ o.lab, e.1.length ≤ 80 ∧ 0 ≤ e.2 ∧ e.2 ≤ 3
  kids : (o.kids.length : Int) ≤ 16 ∧ ∀ k ∈ o.kids, (0 ≤ k.1 ∧ k.1 ≤ 1048576) ∧ (0 ≤ k.2.1 ∧ k.2.1 ≤ 5) ∧ 0 ≤ k.2.2 ∧ k.2.2 ≤ 1048576
  next : 0 ≤ o.next ∧ o.next ≤ 1048577
  bytes : (o.bytes.length : Int) ≤ 256 ∧ Tp.Sml o.bytes
  own : (o.own.length : Int) ≤ 8 ∧ ∀ x ∈ o.own, x.length ≤ 80
  cats : 0 ≤ o.cats ∧ o.cats ≤ 65536
  entry : (o.entry.length : Int) ≤ 8 ∧ ∀ e ∈ o.entry, e.1.length ≤ 80 ∧ 0 ≤ e.2 ∧ e.2 ≤ 3
  ring : 0 ≤ o.ring ∧ o.ring ≤ 1048576
  maps : (o.maps.length : Int) ≤ 4 ∧ ∀ m ∈ o.maps, (0 ≤ m.1 ∧ m.1 ≤ 1048576) ∧ Pa.PathOk m.2.1 ∧ True
theorem objS_reads : Reads objS obBytes ReadO := by
  have h := (nS_reads (most := 5) (by omega)).and (labS_reads.and (kidsS_reads.and ((nS_reads (most := 1048577) (by omega)).and ((tS_reads (most := 256) (by omega)).and (ownS_reads.and ((nS_reads (most := 65536) (by omega)).and (labS_reads.and ((nS_reads (most := 1048576) (by omega)).and mapsS_reads))))))))
  exact h.iso (fun x => (⟨x.1, x.2.1, x.2.2.1, x.2.2.2.1, x.2.2.2.2.1, x.2.2.2.2.2.1, x.2.2.2.2.2.2.1, x.2.2.2.2.2.2.2.1, x.2.2.2.2.2.2.2.2.1, x.2.2.2.2.2.2.2.2.2⟩ : Ob))
    (fun o => (o.kind, o.lab, o.kids, o.next, o.bytes, o.own, o.cats, o.entry, o.ring, o.maps)) (fun _ _ => rfl)
    (fun x ⟨a, b, c, d, e, f, g, h, i, j⟩ => ⟨a, b, c, d, e, f, g, h, i, j⟩) (fun o ⟨a, b, c, d, e, f, g, h, i, j⟩ => ⟨⟨a, b, c, d, e, f, g, h, i, j⟩, rfl, rfl⟩)
abbrev itemBytes (x : List Int × Ob) : List Nat := zBytes x.1 ++ obBytes x.2
noncomputable def itemS (s : St) : (List Int × Ob) × St := (((pathS s).1, (objS (pathS s).2).1), (objS (pathS s).2).2)
theorem itemS_reads : Reads itemS itemBytes fun x => Pa.PathOk x.1 ∧ ReadO x.2 := pathS_reads.and objS_reads
noncomputable def itemsS (s : St) : List (List Int × Ob) × St := cntS 65536 itemS s
theorem itemsS_reads : Reads itemsS (fun l => Tp.enc l.length ++ l.flatMap itemBytes) fun l => (l.length : Int) ≤ 65536 ∧ ∀ x ∈ l, Pa.PathOk x.1 ∧ ReadO x.2 := cntS_reads itemS_reads (by omega) (by omega)
end Go.Proofs.YtgcbfggoddkhnaaGreatDoor

namespace Go.Proofs.YtgcbfggoddkhnaaGreatDoor
open Go.RowKit Go.Shelf
theorem strCells_get {l : List (List UInt8)} {j : Nat} {u : Value} (h : (strCellsOf l)[j]? = some u) : ∃ x, l[j]? = some x ∧ u = .string (str x) := by
  simp [strCellsOf] at h
  obtain ⟨x, h1, h2⟩ := h
  exact ⟨x, h1, h2.symm⟩
theorem strCells_one (l : List (List UInt8)) : ∀ u ∈ strCellsOf l, u.oneCell' = true := by
  intro u hu
  simp [strCellsOf] at hu
  obtain ⟨x, _, rfl⟩ := hu
  rfl
theorem Strs.cells {w : World} {B : Nat} {a : Addr} {l : List (List UInt8)} (h : Strs w B (some a) l) : ∀ j u, (strCellsOf l)[j]? = some u → w.cell? (a.add j) = some u := by
  intro j u hu
  obtain ⟨x, hk, rfl⟩ := strCells_get hu
  have hp : 0 < l.length := by
    have := (List.getElem?_eq_some_iff.1 hk).1
    omega
  obtain ⟨b, o, hA, _, hc⟩ := h hp
  injection hA with hA
  subst hA
  rw [Go.WideShapes.add_plain]
  exact hc j x hk
theorem wpList_append_strs {w : World} {ops : Array Oper} {rest : List Oper} {o : Oper} {a : Act} {Q : Exit → Act → World → Prop} (hgd : o.guard = none) (s x : Operand)
    (ho : o.op = .call { callee := .builtin .append, args := #[s, x], argTypes := #[26, 26] }) (base : Nat) (v : Value) (ys : List (List UInt8)) (hs : a.eval s = v)
    (hown : StrRow w base v ys) (B : Nat) (A : Option Addr) (c : Nat) (xs : List (List UInt8)) (hxe : a.eval x = .slice A xs.length c) (hx : Strs w B A xs) (hc : A = none → c = 0)
    (hn : ys.length + xs.length ≤ 100000001) (hbase : base ≤ w.heap.size)
    (h : ∀ v' w', StrRow w' base v' (ys ++ xs) → Below base w w' → wpList Tryz.prog ops Q rest (a.put o.dst v') w') : wpList Tryz.prog ops Q (o :: rest) a w := by
  obtain ⟨i0, hi, hz0, hz1, hz2⟩ := info_parts Tryz.info9
  cases A with
  | none =>
    have hx0 := hx.none
    subst hx0
    rw [hc rfl] at hxe
    exact wpList_append_own_none hgd s x 26 ho base 9 i0 1 Tryz.underlying26 hi v ys.length _ hs hown hxe (h v w (by simpa using hown) (Below.refl _ _))
  | some ad =>
    refine wpList_append_own w hgd s x 26 ho base 9 i0 _ 1 16 Tryz.underlying26 hi hz0 hz1 hz2 rfl (by decide) v ys.length _ hs hown ad xs.length c (strCellsOf xs) hxe (by simp [strCellsOf]) hx.cells (strCells_one xs) (by unfold maxLen; omega) (by omega) hbase ?_
    intro v' w' h1 h2 _
    refine h v' w' (by unfold StrRow strCellsOf; rw [List.map_append, List.length_append]; exact h1) ((Below.refl base w).grown h2 hbase fun k e => ?_)
    exact (World.ownsRow.lt hown k e).1
def RetRowS (w : World) (l : List (List UInt8)) (e : Ending) (w' : World) : Prop := ∃ v, e = .returned v ∧ StrRow w' w.heap.size v l ∧ Below w.heap.size w w'
set_option maxRecDepth 100000 in
theorem cloneS_any {w : World} {A : Option Addr} {c : Nat} {l : List (List UInt8)} (hl : Strs w w.heap.size A l) (hc : A = none → c = 0) (hn : l.length ≤ 100000000) :
    Calls Tryz.prog 42 #[.slice A l.length c] w (RetRowS w l) := by
  cases A with
  | none =>
    have hl0 := hl.none
    subst hl0
    have hc0 := hc rfl
    subst hc0
    clear hc hl
    have hq : ∀ w : World, (binOp .eql 26 (.slice none 0 0) (.slice none 0 0)).run Tryz.prog w = .ok (.bool true) w := fun _ => rfl
    go_enter Tryz.func42, Tryz.ntmps42
    go_wp2_with fail
    go_ret
    exact ⟨_, rfl, World.ownsRow_nil _ _ _ _, Below.refl _ _⟩
  | some a =>
    have HL := Lib.hid hl
    clear hl hc
    have hq : ∀ w : World, (binOp .eql 26 (.slice (some a) l.length c) (.slice none 0 0)).run Tryz.prog w = .ok (.bool false) w := fun _ => rfl
    have hle : ([] : List (List UInt8)).length + l.length ≤ 100000001 := by simp; omega
    have hr0 : Hid (StrRow (w.alloc (.cells #[] 9)) w.heap.size (.slice (some ⟨w.heap.size, 0, none⟩) 0 0) []) := World.ownsRow_lit (base := w.heap.size) w #[] 0 (Nat.le_refl _) (by unfold maxLen; omega) rfl
    have hal : Hid (Below w.heap.size w (w.alloc (.cells #[] 9))) := (Below.refl _ _).alloc (Nat.le_refl _) _
    have hsz : w.heap.size ≤ (w.alloc (.cells #[] 9)).heap.size := by simp
    go_enter Tryz.func42, Tryz.ntmps42
    go_wp2_with (first
      | (at_builtin; refine wpList_append_strs rfl _ _ rfl w.heap.size _ [] rfl hr0.out w.heap.size (some a) c l rfl (HL.out.below hal.out) (fun h => by cases h) hle hsz ?_))
    intro v' w1 hown hb1
    have B1 : Hid (Below w.heap.size w w1) := hal.out.trans hb1
    have R1 := Lib.hid hown
    clear hown hb1
    go_wp2_with fail
    go_ret
    exact ⟨_, rfl, R1.out, B1.out⟩
end Go.Proofs.YtgcbfggoddkhnaaGreatDoor

namespace Go.Proofs
open Go.Shelf
def Tryz.sortL_ren : Go.Shelf.Ren := ⟨fun | 6 => 145 | 15 => 124 | 14 => 178 | 28 => 169 | 29 => 170 | 20 => 199 | 21 => 200 | 22 => 201 | 23 => 202 | 24 => 203 | 25 => 204 | 26 => 205 | 27 => 206 | 46 => 219 | 47 => 192 | 48 => 193 | 49 => 220 | 50 => 221 | 57 => 232 | n => n, fun | 22 => 26 | 24 => 9 | 25 => 143 | 3 => 3 | 39 => 78 | 0 => 0 | 53 => 210 | 55 => 212 | 4 => 4 | 46 => 203 | 45 => 202 | 50 => 207 | 5 => 5 | 9 => 9 | 66 => 230 | 70 => 234 | 76 => 256 | 77 => 257 | n => n, fun | n => n⟩
theorem Tryz.sortL : Go.Proofs.SlLaysF.n6 Tryz.prog Tryz.sortL_ren := {
  mixed := by kernel_rfl
  f6 := ⟨Tryz.f145.name, by decide, Tryz.func145.trans (congrArg some (by kernel_rfl))⟩
  f14 := ⟨Tryz.f178.name, by decide, Tryz.func178.trans (congrArg some (by kernel_rfl))⟩
  f15 := Tryz.func124.trans (congrArg some (by kernel_rfl))
  f20 := ⟨Tryz.f199.name, by decide, Tryz.func199.trans (congrArg some (by kernel_rfl))⟩
  f21 := ⟨Tryz.f200.name, by decide, Tryz.func200.trans (congrArg some (by kernel_rfl))⟩
  f22 := ⟨Tryz.f201.name, by decide, Tryz.func201.trans (congrArg some (by kernel_rfl))⟩
  f23 := ⟨Tryz.f202.name, by decide, Tryz.func202.trans (congrArg some (by kernel_rfl))⟩
  f24 := ⟨Tryz.f203.name, by decide, Tryz.func203.trans (congrArg some (by kernel_rfl))⟩
  f25 := ⟨Tryz.f204.name, by decide, Tryz.func204.trans (congrArg some (by kernel_rfl))⟩
  f26 := ⟨Tryz.f205.name, by decide, Tryz.func205.trans (congrArg some (by kernel_rfl))⟩
  f27 := ⟨Tryz.f206.name, by decide, Tryz.func206.trans (congrArg some (by kernel_rfl))⟩
  f28 := Tryz.func169.trans (congrArg some (by kernel_rfl))
  f29 := Tryz.func170.trans (congrArg some (by kernel_rfl))
  f46 := ⟨Tryz.f219.name, by decide, Tryz.func219.trans (congrArg some (by kernel_rfl))⟩
  f47 := Tryz.func192.trans (congrArg some (by kernel_rfl))
  f48 := Tryz.func193.trans (congrArg some (by kernel_rfl))
  f49 := ⟨Tryz.f220.name, by decide, Tryz.func220.trans (congrArg some (by kernel_rfl))⟩
  f50 := ⟨Tryz.f221.name, by decide, Tryz.func221.trans (congrArg some (by kernel_rfl))⟩
  f57 := ⟨Tryz.f232.name, by decide, Tryz.func232.trans (congrArg some (by kernel_rfl))⟩
  t0 := Tryz.underlying0
  a0 := Tryz.isAgg0
  z0 := Tryz.sizeOf0
  v0 := Tryz.zeroValue0
  t3 := Tryz.underlying3
  a3 := Tryz.isAgg3
  z3 := Tryz.sizeOf3
  v3 := Tryz.zeroValue3
  t4 := Tryz.underlying4
  a4 := Tryz.isAgg4
  z4 := Tryz.sizeOf4
  v4 := Tryz.zeroValue4
  t5 := Tryz.underlying5
  a5 := Tryz.isAgg5
  z5 := Tryz.sizeOf5
  v5 := Tryz.zeroValue5
  t9 := Tryz.underlying9
  a9 := Tryz.isAgg9
  z9 := Tryz.sizeOf9
  v9 := Tryz.zeroValue9
  t22 := Tryz.underlying26
  a22 := Tryz.isAgg26
  z22 := Tryz.sizeOf26
  v22 := Tryz.zeroValue26
  a24 := Tryz.isAgg9
  z24 := Tryz.sizeOf9
  t25 := Tryz.underlying143
  a25 := Tryz.isAgg143
  z25 := Tryz.sizeOf143
  v25 := Tryz.zeroValue143
  t39 := Tryz.underlying78
  a39 := Tryz.isAgg78
  z39 := Tryz.sizeOf78
  v39 := Tryz.zeroValue78
  t45 := Tryz.underlying202
  a45 := Tryz.isAgg202
  z45 := Tryz.sizeOf202
  v45 := Tryz.zeroValue202
  t46 := Tryz.underlying203
  a46 := Tryz.isAgg203
  z46 := Tryz.sizeOf203
  v46 := Tryz.zeroValue203
  t50 := Tryz.underlying207
  a50 := Tryz.isAgg207
  z50 := Tryz.sizeOf207
  v50 := Tryz.zeroValue207
  t53 := Tryz.underlying210
  a53 := Tryz.isAgg210
  z53 := Tryz.sizeOf210
  v53 := Tryz.zeroValue210
  t55 := Tryz.underlying212
  a55 := Tryz.isAgg212
  z55 := Tryz.sizeOf212
  v55 := Tryz.zeroValue212
  t66 := Tryz.underlying230
  a66 := Tryz.isAgg230
  z66 := Tryz.sizeOf230
  v66 := Tryz.zeroValue230
  t70 := Tryz.underlying234
  a70 := Tryz.isAgg234
  z70 := Tryz.sizeOf234
  v70 := Tryz.zeroValue234
  t76 := Tryz.underlying256
  a76 := Tryz.isAgg256
  z76 := Tryz.sizeOf256
  v76 := Tryz.zeroValue256
  t77 := Tryz.underlying257
  a77 := Tryz.isAgg257
  z77 := Tryz.sizeOf257
  v77 := Tryz.zeroValue257 }
end Go.Proofs

namespace Go.Proofs.YtgcbfggoddkhnaaGreatDoor
open Go.RowKit Go.Shelf
structure CatT where
  val : List UInt8
  ok : (catOf val).isSome = true
theorem cat_zero : catOf [47, 48] = some ([], 0) := catOf_iff.2 ⟨by decide, by
  have h : Lib.decDigits 0 = [48] := Lib.decDigits_one (by omega)
  simp [catText, pathText, joinDot, h]⟩
instance : Inhabited CatT := ⟨⟨[47, 48], by rw [cat_zero]; rfl⟩⟩
def encC (x : CatT) : Value := .string (str x.val)
def cfC (x y : CatT) : Int := cmpC x.val y.val
theorem lt_iff {x y : CatT} : ltOf cfC x y = decide (cmpC x.1 y.1 < 0) := rfl
theorem catT_ext {x y : CatT} (h : x.val = y.val) : x = y := by
  cases x; cases y; cases h; rfl
theorem swo_cats : Sort.SWO (ltOf cfC) where
  irrefl x := by
    rw [lt_iff, tot_cmpC.refl]
    rfl
  trans x y z h1 h2 := by
    rw [lt_iff] at *
    simp only [decide_eq_true_eq] at *
    have o1 := tot_cmpC.one x.1 y.1
    have o2 := tot_cmpC.one y.1 z.1
    have := tot_cmpC.lt_trans (x := x.1) (y := y.1) (z := z.1) (by omega) (by omega)
    omega
  ntrans x y z h1 h2 := by
    rw [lt_iff] at *
    simp only [decide_eq_false_iff_not] at *
    have n1 := tot_cmpC.neg x.1 y.1
    have n2 := tot_cmpC.neg y.1 z.1
    have n3 := tot_cmpC.neg x.1 z.1
    have := tot_cmpC.trans z.1 y.1 x.1 (by omega) (by omega)
    omega
theorem parts_cats (x y : CatT) (h1 : ltOf cfC x y = false) (h2 : ltOf cfC y x = false) : x = y := by
  rw [lt_iff] at *
  simp only [decide_eq_false_iff_not] at *
  have n1 := tot_cmpC.neg x.1 y.1
  exact catT_ext ((tot_cmpC.eq x.1 y.1).1 (by omega))
theorem put_size {α : Type} [Inhabited α] {enc : α → Value} {w : World} {n g off : Nat} {d : Array α} : (Sort.putRow enc (Sort.ahead w n) g off d).heap.size = w.heap.size := by
  simp [Sort.putRow, Sort.mapBlock, Sort.ahead]
theorem below_put {α : Type} [Inhabited α] (enc : α → Value) (w : World) (g off n B : Nat) (d : Array α) (os : Array Obj) (hB : B ≤ g) (hs : B ≤ w.heap.size) :
    Below B w (Sort.grow (Sort.putRow enc (Sort.ahead w n) g off d) os) := by
  refine ⟨rfl, rfl, rfl, ?_, fun k hk => ?_⟩
  · rw [Sort.size_grow, put_size]
    omega
  · rw [Sort.heap_grow_old _ _ (by rw [put_size]; omega)]
    have : g ≠ k := by omega
    simp [Sort.putRow, Sort.mapBlock, Sort.ahead, Array.getElem?_modify, this]
theorem holds_grow {α : Type} [Inhabited α] {enc : α → Value} {w : World} {g off : Nat} {d : Array α} (h : Sort.Holds enc w g off d) (hg : g < w.heap.size) (os : Array Obj) : Sort.Holds enc (Sort.grow w os) g off d :=
  Sort.holds_grow enc w os g off d hg h
theorem grow_of_below {w w' : World} (hb : Below w.heap.size w w') (hd : w.drawn ≤ w'.drawn) : ∃ q os', w' = Sort.grow (w.drewN q) os' := by
  refine ⟨w'.drawn - w.drawn, w'.heap.extract w.heap.size w'.heap.size, ?_⟩
  have hh : w'.heap = w.heap ++ w'.heap.extract w.heap.size w'.heap.size := by
    apply Array.ext_getElem?
    intro i
    by_cases hi : i < w.heap.size
    · rw [Array.getElem?_append_left hi]
      exact hb.block i hi
    · rw [Array.getElem?_append_right (by omega)]
      have hsz := hb.size
      by_cases hi2 : i < w'.heap.size
      · rw [Array.getElem?_eq_getElem hi2, Array.getElem?_eq_getElem (by simp; omega)]
        simp
        congr 1
        omega
      · rw [Array.getElem?_eq_none (by omega), Array.getElem?_eq_none (by simp; omega)]
  have h1 := hb.os
  have h2 := hb.tape
  have h3 := hb.output
  obtain ⟨_⟩ := w
  obtain ⟨_⟩ := w'
  simp only [Sort.grow, World.drewN] at *
  subst h1 h2 h3
  congr 1
  omega
theorem cmp_lays {w : World} (he : Env w) (g off size : Nat) (hg : 8 ≤ g) : CmpLays1 Tryz.prog 103 #[] encC cfC g off size w := by
  intro m os dk _ x y
  have hE : Env (sortWorld encC w g off m dk os) := he.below (below_put encC w g off m 8 dk os hg he.1) (Nat.le_refl _)
  refine Calls.mono (show Calls Tryz.prog 103 (#[encC x, encC y] ++ #[]) _ _ from compare_more hE (cat_len x.2) (cat_len y.2)) ?_
  rintro e w' ⟨⟨rfl, hb⟩, hd⟩
  obtain ⟨q, os', h⟩ := grow_of_below hb (hd ⟨x.2, y.2⟩)
  exact ⟨rfl, q, os', h⟩
theorem cats_of : ∀ {R : List (List UInt8)}, (∀ x ∈ R, (catOf x).isSome = true) → ∃ d : List CatT, d.map CatT.val = R
  | [], _ => ⟨[], rfl⟩
  | x :: r, h => by
    obtain ⟨d, hd⟩ := cats_of (R := r) fun y hy => h y (List.mem_cons_of_mem _ hy)
    exact ⟨⟨x, h x (by simp)⟩ :: d, by rw [List.map_cons, hd]⟩
theorem holds_row {w : World} {base g cap : Nat} {R : List (List UInt8)} (h : StrRow w base (.slice (some ⟨g, 0, none⟩) R.length cap) R) (hc : ∀ x ∈ R, (catOf x).isSome = true) :
    ∃ d : Array CatT, d.toList.map CatT.val = R ∧ Sort.Holds encC w g 0 d := by
  obtain ⟨d, hd⟩ := cats_of hc
  refine ⟨d.toArray, hd, fun j hj => ?_⟩
  have hj' : j < d.length := by simpa using hj
  have hl : d.length = R.length := by rw [← hd]; simp
  have h0 : w.ownsRow base 9 1 (.slice (some ⟨g, 0, none⟩) R.length cap) R.length (strCellsOf R) := h
  refine ⟨?_, ?_⟩
  · rw [Nat.zero_add, h0.cellAt j (by omega)]
    unfold strCellsOf
    rw [← hd]
    simp [hj', encC]
  · rw [Nat.zero_add]
    exact h0.frozenAt j
theorem holds_cats {w : World} {g off : Nat} {d : Array CatT} (h : Sort.Holds encC w g off d) : Sort.Holds encStr w g off (d.toList.map CatT.val).toArray := fun j hj => by
  have hj' : j < d.size := by simpa using hj
  have := h j hj'
  rw [getElem!_pos d j hj'] at this
  rw [getElem!_pos _ j hj]
  simpa [encC, encStr, str] using this
theorem holds_strs {w : World} {g off k : Nat} {l : List (List UInt8)} {x : List UInt8} (h : Sort.Holds encStr w g off l.toArray) (hk : l[k]? = some x) : w.cell? ⟨g, off + k, none⟩ = some (.string (str x)) := by
  obtain ⟨h1, h2⟩ := List.getElem?_eq_some_iff.1 hk
  have := (h k (by simpa using h1)).1
  rw [getElem!_pos l.toArray k (by simpa using h1)] at this
  rw [this]
  simp [h2, encStr, str]
end Go.Proofs.YtgcbfggoddkhnaaGreatDoor
