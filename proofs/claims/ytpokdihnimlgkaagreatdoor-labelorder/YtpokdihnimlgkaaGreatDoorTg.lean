/- Text and End of a tape; fault.Has of nil and OK. -/
import Derived.Test.YtpokdihnimlgkaaGreatDoorTf
namespace Go.Proofs.YtpokdihnimlgkaaGreatDoor.Tp
open Go.RowKit

set_option maxRecDepth 100000 in
theorem tape_text_fault {w : World} {g : Nat} {k : Option Nat} {l : List Nat} {T : TypeId} {x : Value} {most : Int} (h : TapeAt w g k l (.iface T x)) :
    Calls Tryz.prog 52 #[.pointer (some ⟨g, 0, none⟩), .int .i64 most] w fun e w' => e = .returned (.string ⟨#[]⟩) ∧ w = w' := by
  have H := Lib.hid (tape_err h)
  clear h
  go_enter Tryz.func52, Tryz.ntmps52
  go_wp2_with (go_at_call 53; refine H.out.mono ?_; rintro e w' ⟨rfl, rfl⟩)
  go_ret
  exact ⟨rfl, rfl⟩

/-- These bytes begin with no string of at most most bytes. -/
def NoTxt (l : List Nat) (most : Int) : Prop := ∀ s r : List Nat, l = enc s.length ++ (s ++ r) → s.length < 9223372036854775808 → most < (s.length : Int)

def TTxt (w : World) (g : Nat) (k : Option Nat) (l : List Nat) (most : Int) (e : Ending) (w' : World) : Prop :=
  Kp (fun b => b = g) w w' ∧ ((∃ s r : List Nat, l = enc s.length ++ (s ++ r) ∧ (s.length : Int) ≤ most ∧ e = .returned (.string (str s)) ∧ TapeAt w' g k r .nilIface) ∨
    (NoTxt l most ∧ e = .returned (.string ⟨#[]⟩) ∧ ∃ T x, TapeAt w' g k l (.iface T x)))

set_option maxRecDepth 100000 in
theorem Row.first {w : World} {k : Option Nat} {b o c : Nat} {p r : List Nat} (h : Row w k (some ⟨b, o, none⟩) c (p ++ r)) : Bts w w.heap.size (some ⟨b, o, none⟩) p := by
  intro _
  rcases h with ⟨h, _⟩ | ⟨b', o1, hA, hk, hb, h1, h2, hc⟩
  · cases h
  · injection hA with hA
    injection hA with e1 e2
    subst e1 e2
    exact ⟨b, o, rfl, hb, fun i d hi => hc i d (by rw [List.getElem?_append_left (List.getElem?_eq_some_iff.1 hi).1]; exact hi)⟩

set_option maxRecDepth 100000 in
theorem tape_text {w : World} {g : Nat} {k : Option Nat} {l : List Nat} {most : Int} (h : TapeAt w g k l .nilIface) (hs : Sml l) (hn : l.length ≤ 900000) :
    Calls Tryz.prog 52 #[.pointer (some ⟨g, 0, none⟩), .int .i64 most] w (TTxt w g k l most) := by
  have H20 := Lib.hid (tape_err h)
  have H14 := Lib.hid (tape_number (most := most) h hs hn)
  have hglt := h.lt
  obtain ⟨A, c, h1, h2, h3, h4, h5, h6⟩ := h
  have HR := Lib.hid h5
  have HG := Lib.hid h6
  clear h5 h6 h2 h3 h4
  obtain ⟨len, hlen⟩ : ∃ len, len = l.length := ⟨_, rfl⟩
  rw [← hlen] at h1
  have HLen := Lib.hid hlen
  clear hlen
  go_enter Tryz.func52, Tryz.ntmps52
  go_wp2_with (go_at_call 53; refine H20.out.mono ?_; rintro e w' ⟨rfl, rfl⟩)
  refine H14.out.mono ?_
  rintro e w1 ⟨hkp, ⟨n, r, hl, hle, hlt, rfl, ht⟩ | ⟨hno, rfl, T, x, ht⟩⟩
  · have HT := Lib.hid ht
    have HK := Lib.hid hkp
    have hg1 := ht.lt
    obtain ⟨A1, c1, i1, i2, i3, i4, i5, i6⟩ := ht
    have HR1 := Lib.hid i5
    have hrl : r.length ≤ 900000 := by
      have := congrArg List.length hl
      rw [List.length_append] at this
      omega
    clear i5 i6 hkp
    by_cases hgt : r.length < n
    · have H22 := Lib.hid (fun W => new_new ⟨#[116, 97, 112, 101]⟩ 11 W rfl)
      have HL := Lib.hid hl
      clear hl
      go_wp2_with (go_at_call 73; refine (H22.out _).mono ?_; rintro e w' ⟨rfl, rfl⟩)
      go_ret
      have hrow := (HR.out.kp HK.out (fun j hj e => by subst e; exact HG.out hj)).kp (Kp.setCell (S := fun b => b = g) (p := ⟨g, 1, none⟩) (Kp.refl _ _) (fun _ => rfl) (.iface 135 (.pointer (some ⟨w1.heap.size, 0, none⟩)))) (fun j hj e => by subst e; exact HG.out hj)
      refine ⟨((HK.out.setCell (fun _ => rfl) _).setCell (fun _ => rfl) _).alloc _, .inr ⟨fun s r' h hs => ?_, rfl, 135, _, ((HT.out.setErr _).setLeft hrow HLen.out).alloc _⟩⟩
      rw [HL.out] at h
      obtain ⟨e1, e2⟩ := enc_prefix h
      rw [e2, List.length_append] at hgt
      omega
    · obtain ⟨s, r2, rfl, hsn⟩ : ∃ s r2, r = s ++ r2 ∧ s.length = n := ⟨r.take n, r.drop n, by simp, by simp; omega⟩
      subst hsn
      rw [List.length_append] at i1
      cases A1 with
      | none =>
        rcases HR1.out with ⟨_, _, hk, _⟩ | ⟨b, o, h, _⟩
        · rcases HR.out with ⟨_, _, _, h⟩ | ⟨b, o, _, hk2, _⟩
          · rw [h] at hl
            have h0 := congrArg List.length hl
            have h1 := enc_pos s.length
            rw [List.length_append] at h0
            simp at h0
            omega
          · rw [hk] at hk2; cases hk2
        · cases h
      | some a1 =>
        rcases HR1.out with ⟨h, _⟩ | ⟨b, o, hA, hk, hb, hlc, hcm, _⟩
        · cases h
        · injection hA with hA
          subst hA
          rw [List.length_append] at hlc
          obtain ⟨o', ho', hsl⟩ := slice_from b o s.length r2.length c1 hlc
          have hst := slice_to b o s.length r2.length c1 hlc
          have hcv := conv_str HR1.out.first c1
          have HO := Lib.hid ho'
          have HL := Lib.hid hl
          have HLe := Lib.hid hle
          clear ho' hl hle hk
          go_wp2_with fail
          go_ret
          exact ⟨HK.out.setCell (fun _ => rfl) _, .inl ⟨s, r2, HL.out, HLe.out, rfl, HT.out.setLeft (HR1.out.rest HO.out) rfl⟩⟩
  · have HT := Lib.hid ht
    have HK := Lib.hid hkp
    have HN := Lib.hid hno
    obtain ⟨A1, c1, i1, i2, i3, i4, i5, i6⟩ := ht
    clear i5 i6 hkp hno
    go_wp2_with fail
    go_ret
    exact ⟨HK.out, .inr ⟨fun s r h hs => HN.out s.length (s ++ r) h hs, rfl, T, x, HT.out⟩⟩

end Go.Proofs.YtpokdihnimlgkaaGreatDoor.Tp
