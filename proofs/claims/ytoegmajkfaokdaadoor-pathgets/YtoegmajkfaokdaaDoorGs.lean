/- PathGets walked. -/
import Derived.Test.YtoegmajkfaokdaaDoorFi
import Derived.Test.YtoegmajkfaokdaaDoorRg
import Derived.Test.YtoegmajkfaokdaaDoorWy
import Derived.Deep.RegionWith
import Derived.Lib.QuietBelow
import Derived.BigQuiet
namespace Go.Proofs.YtoegmajkfaokdaaDoor
open Go.RowKit

set_option maxRecDepth 100000 in
theorem left_any {w : World} {g : Nat} {k : Option Nat} {l : List Nat} {ok : Bool} (h : TapeE w g k l ok) : Calls Tryd.prog 30 #[.pointer (some ⟨g, 0, none⟩)] w fun e w' => e = .returned (.int .i64 (l.length : Int)) ∧ w = w' := by
  obtain ⟨A, c, h1⟩ : ∃ A c, w.cell? ⟨g, 0, none⟩ = some (.slice A l.length c) := by
    rcases h with ⟨_, A, c, h1, _⟩ | ⟨_, T, x, A, c, h1, _⟩
    · exact ⟨A, c, h1⟩
    · exact ⟨A, c, h1⟩
  clear h
  go_enter Tryd.func30, Tryd.ntmps30
  go_wp2_with fail
  go_ret
  exact ⟨rfl, rfl⟩

/-- Both tapes stand, apart. -/
structure Two (w1 W : World) (g h : Nat) (k : Option Nat) (l : List Nat) : Prop where
  tape : Tp.TapeAt W g k l .nilIface
  ref : RT W h (Tp.str l) 0
  gh : g ≠ h
  kh : k ≠ some h
  g1 : w1.heap.size ≤ g
  h1 : w1.heap.size ≤ h
  below : Below w1.heap.size w1 W

set_option maxRecDepth 100000 in
set_option maxHeartbeats 4000000 in
theorem pathGets_any {w : World} {A : Option Addr} {c : Nat} {l : List Nat} (he : Env w) (hl : Tp.Bts w w.heap.size A l) (hc : A = none → c = 0) (hs : Tp.Sml l) : Calls Tryd.prog 5 #[.slice A l.length c] w (Fine w) := by
  have H8 := Lib.hid (first_any he)
  have HL := Lib.hid hl
  have HS := Lib.hid hs
  have HCN := Lib.hid hc
  clear he hl hs hc
  go_enter Tryd.func5, Tryd.ntmps5
  go_wp2_with fail
  refine H8.out.mono ?_
  rintro e w1 ⟨rfl, hb1⟩
  have B1 := Lib.hid hb1
  have HL1 : Hid (Tp.Bts w1 w1.heap.size A l) := (HL.out.below hb1).more hb1.size
  clear hb1 H8
  by_cases hlen : 300 < l.length
  · go_wp2_with fail
    go_ret
    exact ⟨rfl, B1.out⟩
  · have HN : Hid (∀ W, Below w1.heap.size w1 W → Calls Tryd.prog 27 #[.slice A l.length c] W (Tp.RetTape W l)) := fun W hb => Tp.tape_new ((HL1.out.below hb).more hb.size) HCN.out (by omega)
    have HCV : Hid (∀ W, Below w1.heap.size w1 W → (convert 33 9 (.slice A l.length c)).run Tryd.prog W = .ok (.string (Tp.str l)) W) := fun W hb => Tp.conv_str (HL1.out.below hb) c
    have cv0 := HCV.out w1.drew (Below.refl _ _).drew
    go_wp2_with fail
    go_region_with (first
      | (go_at_call 27; refine (HN.out _ (Below.refl _ _).drew).mono ?_; rintro e w2 ⟨g, k, rfl, ht, hg, hk, hb2⟩; have hB2 : Below w1.heap.size w1 w2 := (Below.refl _ w1).drew.trans hb2; have cv1 := HCV.out w2 hB2)
      | (go_at_call 27; refine (HN.out _ ((Below.refl _ _).drew.alloc (Nat.le_refl _) _)).mono ?_; rintro e w2 ⟨g, k, rfl, ht, hg, hk, hb2⟩; have hB2 : Below w1.heap.size w1 w2 := ((Below.refl _ w1).drew.alloc (Nat.le_refl _) _).trans (hb2.mono (by simp))))
    · have hgl := ht.lt
      have hkl := ht.row_lt
      obtain ⟨W, hW⟩ : ∃ W, W = w2.alloc (.cells #[.string (Tp.str l), .int .i64 0] 48) := ⟨_, rfl⟩
      obtain ⟨h, hh⟩ : ∃ h, h = w2.heap.size := ⟨_, rfl⟩
      have T2 : Hid (Two w1 W g h k l) := by
        rw [hW, hh]
        exact ⟨ht.alloc _, RT.new w2 _ _, by omega, fun e => by have := hkl _ e; omega, hg, hB2.size, hB2.alloc hB2.size _⟩
      rw [← hW, ← hh]
      clear ht hg hk hb2 hB2 cv0 cv1 hgl hkl hW hh HN HCV
      have H28 := Lib.hid (get_any T2.out.tape HS.out (by omega))
      go_wp2_with fail
      refine H28.out.mono ?_
      rintro e w3 ⟨hk3, hte, hret⟩
      have hr3 := T2.out.ref.kp hk3 (fun e => T2.out.gh e.symm)
      have H29 := Lib.hid (refGet_any hr3 HS.out (by omega))
      have HK3 := Lib.hid hk3
      have HTE := Lib.hid hte
      have hh3 := hr3.lt
      obtain ⟨st, hst⟩ : ∃ st, st = rdAll l := ⟨_, rfl⟩
      have hwide : WideZ st.1 ∧ st.1.length ≤ 6 := by
        rw [hst, rdAll_eq]
        exact ⟨(rd_wide l _).1, by rw [(rd_wide l _).2]; exact rdN_le l⟩
      have hRG : RetGet W l e w3 := hret
      unfold RetGet at hRG
      rw [← hst] at HTE hRG
      have HST := Lib.hid hst
      have HWD := Lib.hid hwide.1
      have hlen6 := hwide.2
      have hsW : W.heap.size ≤ w3.heap.size := hk3.size
      have hBW := T2.out.below.size
      have hhW := T2.out.ref.lt
      clear hk3 hte hret hr3 H28 hst hwide
      rcases hRG with ⟨hok, v3, rfl, hrow3⟩ | ⟨hok, rfl⟩
      · obtain ⟨A3, c3, rfl⟩ := hrow3.slice
        have HR3 := Lib.hid hrow3
        clear hrow3
        go_wp2_with fail
        refine H29.out.mono ?_
        rintro e w4 ⟨hk4, hrt, hret⟩
        have hRG : RetGet w3 l e w4 := hret
        unfold RetGet at hRG
        rw [← HST.out] at hRG hrt
        clear hret H29
        rcases hRG with ⟨_, v4, rfl, hrow4⟩ | ⟨hno, rfl⟩
        case inr => rw [hok] at hno; cases hno
        obtain ⟨A4, c4, rfl⟩ := hrow4.slice
        have z3 := ZRow.pl_of (HR3.out.kp hk4 (fun j hj _ e => by subst e; omega)) HWD.out
        have z4 := ZRow.pl_of hrow4 HWD.out
        have hte := HTE.out.kp hk4 (fun e => T2.out.gh e) (fun j hj e => T2.out.kh (by rw [hj, e]))
        have BW4 : Hid (Below w1.heap.size w1 w4) := (T2.out.below.trans (HK3.out.below hBW (fun j hj => by rw [hj]; exact T2.out.g1))).trans (hk4.below (by omega) (fun j hj => by rw [hj]; exact T2.out.h1))
        obtain ⟨E, hrt, _⟩ := hrt
        obtain ⟨S, hS⟩ : ∃ S, S = Tp.str st.2.1 := ⟨_, rfl⟩
        have hSz : S.size = st.2.1.length := by rw [hS]; exact Tp.str_size _
        rw [← hS] at hrt
        have c0 := hrt.cell0
        have g0 := cell_regrown c0
        have C15 : Hid (∀ d' os, Calls Tryd.prog 15 #[.slice A3 st.1.length c3, .slice A4 st.1.length c4] (Sort.grow (redrawn w4 d') os) fun e w' => e = .returned (.bool true) ∧ ∃ r : Regrown, w' = Sort.grow (redrawn w4 r.d) r.os) := fun d' os => by
          have hb := below_regrown w4 d' os
          have := same_any (c := c3) (c' := c4) (z3.on hb).zs (z4.on hb).zs (by omega)
          rw [decide_eq_true rfl] at this
          exact this.mono fun e w' h => ⟨h.1, regrown_of_below (hb.trans (h.2.mono hb.size))⟩
        have C30 : Hid (∀ d' os, Calls Tryd.prog 30 #[.pointer (some ⟨g, 0, none⟩)] (Sort.grow (redrawn w4 d') os) fun e w' => e = .returned (.int .i64 (st.2.1.length : Int)) ∧ ∃ r : Regrown, w' = Sort.grow (redrawn w4 r.d) r.os) := fun d' os => by
          have hb := below_regrown w4 d' os
          exact (left_any (hte.kp (S := fun _ => False) (Tp.Kp.of_below hb _) (fun h => h) (fun _ _ h => h))).mono fun e w' h => ⟨h.1, by rw [← h.2]; exact ⟨⟨d', os⟩, rfl⟩⟩
        have q1 : ((st.2.1.length : Int) == (S.size : Int)) = true := by rw [hSz]; simp
        clear hS hrt z3 z4 hte hk4 HTE HST hSz
        go_wp2_with fail
        refine wp_region_quiet_below (by kernel_rfl) (by kernel_rfl) ?_
        repeat (go_big_quiet_step (first | exact C15.out _ _ | exact C30.out _ _))
        refine wpQuiet_nil ?_
        rintro _ ⟨⟨dq, osq⟩, rfl⟩
        go_wp2_with fail
        go_ret
        exact ⟨by simp, B1.out.trans ((BW4.out.trans ((below_regrown w4 dq osq).mono (by have := BW4.out.size; omega))).mono B1.out.size)⟩
      · have HOKF := Lib.hid hok
        clear hok
        go_wp2_with fail
        refine H29.out.mono ?_
        rintro e w4 ⟨hk4, hrt, hret⟩
        have hRG : RetGet w3 l e w4 := hret
        unfold RetGet at hRG
        rw [← HST.out] at hRG hrt
        clear hret H29
        rcases hRG with ⟨hno, v4, rfl, hrow4⟩ | ⟨_, rfl⟩
        case inl => rw [HOKF.out] at hno; cases hno
        have z3 := pl_nil w4
        have z4 := pl_nil w4
        have hte := HTE.out.kp hk4 (fun e => T2.out.gh e) (fun j hj e => T2.out.kh (by rw [hj, e]))
        have BW4 : Hid (Below w1.heap.size w1 w4) := (T2.out.below.trans (HK3.out.below hBW (fun j hj => by rw [hj]; exact T2.out.g1))).trans (hk4.below (by omega) (fun j hj => by rw [hj]; exact T2.out.h1))
        obtain ⟨E, hrt, _⟩ := hrt
        obtain ⟨S, hS⟩ : ∃ S, S = Tp.str st.2.1 := ⟨_, rfl⟩
        have hSz : S.size = st.2.1.length := by rw [hS]; exact Tp.str_size _
        rw [← hS] at hrt
        have c0 := hrt.cell0
        have g0 := cell_regrown c0
        have C15 : Hid (∀ d' os, Calls Tryd.prog 15 #[.slice none 0 0, .slice none 0 0] (Sort.grow (redrawn w4 d') os) fun e w' => e = .returned (.bool true) ∧ ∃ r : Regrown, w' = Sort.grow (redrawn w4 r.d) r.os) := fun d' os => by
          have hb := below_regrown w4 d' os
          have := same_any (c := 0) (c' := 0) (z3.on hb).zs (z4.on hb).zs (by simp)
          rw [decide_eq_true rfl] at this
          exact this.mono fun e w' h => ⟨h.1, regrown_of_below (hb.trans (h.2.mono hb.size))⟩
        have C30 : Hid (∀ d' os, Calls Tryd.prog 30 #[.pointer (some ⟨g, 0, none⟩)] (Sort.grow (redrawn w4 d') os) fun e w' => e = .returned (.int .i64 (st.2.1.length : Int)) ∧ ∃ r : Regrown, w' = Sort.grow (redrawn w4 r.d) r.os) := fun d' os => by
          have hb := below_regrown w4 d' os
          exact (left_any (hte.kp (S := fun _ => False) (Tp.Kp.of_below hb _) (fun h => h) (fun _ _ h => h))).mono fun e w' h => ⟨h.1, by rw [← h.2]; exact ⟨⟨d', os⟩, rfl⟩⟩
        have q1 : ((st.2.1.length : Int) == (S.size : Int)) = true := by rw [hSz]; simp
        clear hS hrt z3 z4 hte hk4 HTE HST hSz
        go_wp2_with fail
        refine wp_region_quiet_below (by kernel_rfl) (by kernel_rfl) ?_
        repeat (go_big_quiet_step (first | exact C15.out _ _ | exact C30.out _ _))
        refine wpQuiet_nil ?_
        rintro _ ⟨⟨dq, osq⟩, rfl⟩
        go_wp2_with fail
        go_ret
        exact ⟨by simp, B1.out.trans ((BW4.out.trans ((below_regrown w4 dq osq).mono (by have := BW4.out.size; omega))).mono B1.out.size)⟩
    · have hgl := ht.lt
      have hkl := ht.row_lt
      obtain ⟨W, hW⟩ : ∃ W, W = w2.alloc (.cells #[.string (Tp.str l), .int .i64 0] 48) := ⟨_, rfl⟩
      obtain ⟨h, hh⟩ : ∃ h, h = w2.heap.size := ⟨_, rfl⟩
      have T2 : Hid (Two w1 W g h k l) := by
        rw [hW, hh]
        exact ⟨ht.alloc _, RT.new w2 _ _, by omega, fun e => by have := hkl _ e; omega, hg, hB2.size, hB2.alloc hB2.size _⟩
      rw [← hW, ← hh]
      clear ht hg hk hb2 hB2 cv0 cv1 hgl hkl hW hh HN HCV
      have H28 := Lib.hid (get_any T2.out.tape HS.out (by omega))
      go_wp2_with fail
      refine H28.out.mono ?_
      rintro e w3 ⟨hk3, hte, hret⟩
      have hr3 := T2.out.ref.kp hk3 (fun e => T2.out.gh e.symm)
      have H29 := Lib.hid (refGet_any hr3 HS.out (by omega))
      have HK3 := Lib.hid hk3
      have HTE := Lib.hid hte
      have hh3 := hr3.lt
      obtain ⟨st, hst⟩ : ∃ st, st = rdAll l := ⟨_, rfl⟩
      have hwide : WideZ st.1 ∧ st.1.length ≤ 6 := by
        rw [hst, rdAll_eq]
        exact ⟨(rd_wide l _).1, by rw [(rd_wide l _).2]; exact rdN_le l⟩
      have hRG : RetGet W l e w3 := hret
      unfold RetGet at hRG
      rw [← hst] at HTE hRG
      have HST := Lib.hid hst
      have HWD := Lib.hid hwide.1
      have hlen6 := hwide.2
      have hsW : W.heap.size ≤ w3.heap.size := hk3.size
      have hBW := T2.out.below.size
      have hhW := T2.out.ref.lt
      clear hk3 hte hret hr3 H28 hst hwide
      rcases hRG with ⟨hok, v3, rfl, hrow3⟩ | ⟨hok, rfl⟩
      · obtain ⟨A3, c3, rfl⟩ := hrow3.slice
        have HR3 := Lib.hid hrow3
        clear hrow3
        go_wp2_with fail
        refine H29.out.mono ?_
        rintro e w4 ⟨hk4, hrt, hret⟩
        have hRG : RetGet w3 l e w4 := hret
        unfold RetGet at hRG
        rw [← HST.out] at hRG hrt
        clear hret H29
        rcases hRG with ⟨_, v4, rfl, hrow4⟩ | ⟨hno, rfl⟩
        case inr => rw [hok] at hno; cases hno
        obtain ⟨A4, c4, rfl⟩ := hrow4.slice
        have z3 := ZRow.pl_of (HR3.out.kp hk4 (fun j hj _ e => by subst e; omega)) HWD.out
        have z4 := ZRow.pl_of hrow4 HWD.out
        have hte := HTE.out.kp hk4 (fun e => T2.out.gh e) (fun j hj e => T2.out.kh (by rw [hj, e]))
        have BW4 : Hid (Below w1.heap.size w1 w4) := (T2.out.below.trans (HK3.out.below hBW (fun j hj => by rw [hj]; exact T2.out.g1))).trans (hk4.below (by omega) (fun j hj => by rw [hj]; exact T2.out.h1))
        obtain ⟨E, hrt, _⟩ := hrt
        obtain ⟨S, hS⟩ : ∃ S, S = Tp.str st.2.1 := ⟨_, rfl⟩
        have hSz : S.size = st.2.1.length := by rw [hS]; exact Tp.str_size _
        rw [← hS] at hrt
        have c0 := hrt.cell0
        have g0 := cell_regrown c0
        have C15 : Hid (∀ d' os, Calls Tryd.prog 15 #[.slice A3 st.1.length c3, .slice A4 st.1.length c4] (Sort.grow (redrawn w4 d') os) fun e w' => e = .returned (.bool true) ∧ ∃ r : Regrown, w' = Sort.grow (redrawn w4 r.d) r.os) := fun d' os => by
          have hb := below_regrown w4 d' os
          have := same_any (c := c3) (c' := c4) (z3.on hb).zs (z4.on hb).zs (by omega)
          rw [decide_eq_true rfl] at this
          exact this.mono fun e w' h => ⟨h.1, regrown_of_below (hb.trans (h.2.mono hb.size))⟩
        have C30 : Hid (∀ d' os, Calls Tryd.prog 30 #[.pointer (some ⟨g, 0, none⟩)] (Sort.grow (redrawn w4 d') os) fun e w' => e = .returned (.int .i64 (st.2.1.length : Int)) ∧ ∃ r : Regrown, w' = Sort.grow (redrawn w4 r.d) r.os) := fun d' os => by
          have hb := below_regrown w4 d' os
          exact (left_any (hte.kp (S := fun _ => False) (Tp.Kp.of_below hb _) (fun h => h) (fun _ _ h => h))).mono fun e w' h => ⟨h.1, by rw [← h.2]; exact ⟨⟨d', os⟩, rfl⟩⟩
        have q1 : ((st.2.1.length : Int) == (S.size : Int)) = true := by rw [hSz]; simp
        clear hS hrt z3 z4 hte hk4 HTE HST hSz
        go_wp2_with fail
        refine wp_region_quiet_below (by kernel_rfl) (by kernel_rfl) ?_
        repeat (go_big_quiet_step (first | exact C15.out _ _ | exact C30.out _ _))
        refine wpQuiet_nil ?_
        rintro _ ⟨⟨dq, osq⟩, rfl⟩
        go_wp2_with fail
        go_ret
        exact ⟨by simp, B1.out.trans ((BW4.out.trans ((below_regrown w4 dq osq).mono (by have := BW4.out.size; omega))).mono B1.out.size)⟩
      · have HOKF := Lib.hid hok
        clear hok
        go_wp2_with fail
        refine H29.out.mono ?_
        rintro e w4 ⟨hk4, hrt, hret⟩
        have hRG : RetGet w3 l e w4 := hret
        unfold RetGet at hRG
        rw [← HST.out] at hRG hrt
        clear hret H29
        rcases hRG with ⟨hno, v4, rfl, hrow4⟩ | ⟨_, rfl⟩
        case inl => rw [HOKF.out] at hno; cases hno
        have z3 := pl_nil w4
        have z4 := pl_nil w4
        have hte := HTE.out.kp hk4 (fun e => T2.out.gh e) (fun j hj e => T2.out.kh (by rw [hj, e]))
        have BW4 : Hid (Below w1.heap.size w1 w4) := (T2.out.below.trans (HK3.out.below hBW (fun j hj => by rw [hj]; exact T2.out.g1))).trans (hk4.below (by omega) (fun j hj => by rw [hj]; exact T2.out.h1))
        obtain ⟨E, hrt, _⟩ := hrt
        obtain ⟨S, hS⟩ : ∃ S, S = Tp.str st.2.1 := ⟨_, rfl⟩
        have hSz : S.size = st.2.1.length := by rw [hS]; exact Tp.str_size _
        rw [← hS] at hrt
        have c0 := hrt.cell0
        have g0 := cell_regrown c0
        have C15 : Hid (∀ d' os, Calls Tryd.prog 15 #[.slice none 0 0, .slice none 0 0] (Sort.grow (redrawn w4 d') os) fun e w' => e = .returned (.bool true) ∧ ∃ r : Regrown, w' = Sort.grow (redrawn w4 r.d) r.os) := fun d' os => by
          have hb := below_regrown w4 d' os
          have := same_any (c := 0) (c' := 0) (z3.on hb).zs (z4.on hb).zs (by simp)
          rw [decide_eq_true rfl] at this
          exact this.mono fun e w' h => ⟨h.1, regrown_of_below (hb.trans (h.2.mono hb.size))⟩
        have C30 : Hid (∀ d' os, Calls Tryd.prog 30 #[.pointer (some ⟨g, 0, none⟩)] (Sort.grow (redrawn w4 d') os) fun e w' => e = .returned (.int .i64 (st.2.1.length : Int)) ∧ ∃ r : Regrown, w' = Sort.grow (redrawn w4 r.d) r.os) := fun d' os => by
          have hb := below_regrown w4 d' os
          exact (left_any (hte.kp (S := fun _ => False) (Tp.Kp.of_below hb _) (fun h => h) (fun _ _ h => h))).mono fun e w' h => ⟨h.1, by rw [← h.2]; exact ⟨⟨d', os⟩, rfl⟩⟩
        have q1 : ((st.2.1.length : Int) == (S.size : Int)) = true := by rw [hSz]; simp
        clear hS hrt z3 z4 hte hk4 HTE HST hSz
        go_wp2_with fail
        refine wp_region_quiet_below (by kernel_rfl) (by kernel_rfl) ?_
        repeat (go_big_quiet_step (first | exact C15.out _ _ | exact C30.out _ _))
        refine wpQuiet_nil ?_
        rintro _ ⟨⟨dq, osq⟩, rfl⟩
        go_wp2_with fail
        go_ret
        exact ⟨by simp, B1.out.trans ((BW4.out.trans ((below_regrown w4 dq osq).mono (by have := BW4.out.size; omega))).mono B1.out.size)⟩
    · have hR : RT w2 w1.heap.size (Tp.str l) 0 := (hb2.block w1.heap.size (by simp)).trans (RT.new w1.drew (Tp.str l) 0)
      obtain ⟨h, hh⟩ : ∃ h, h = w1.heap.size := ⟨_, rfl⟩
      have T2 : Hid (Two w1 w2 g h k l) := by
        rw [hh]
        refine ⟨ht, hR, ?_, fun e => ?_, ?_, Nat.le_refl _, hB2⟩
        · simp at hg; omega
        · have := hk _ e; simp at this; omega
        · simp at hg; omega
      obtain ⟨W, hW⟩ : ∃ W, W = w2 := ⟨_, rfl⟩
      rw [← hW] at T2 ⊢
      rw [← hh]
      clear ht hg hk hb2 hB2 cv0 hR hh HN HCV hW
      have H28 := Lib.hid (get_any T2.out.tape HS.out (by omega))
      go_wp2_with fail
      refine H28.out.mono ?_
      rintro e w3 ⟨hk3, hte, hret⟩
      have hr3 := T2.out.ref.kp hk3 (fun e => T2.out.gh e.symm)
      have H29 := Lib.hid (refGet_any hr3 HS.out (by omega))
      have HK3 := Lib.hid hk3
      have HTE := Lib.hid hte
      have hh3 := hr3.lt
      obtain ⟨st, hst⟩ : ∃ st, st = rdAll l := ⟨_, rfl⟩
      have hwide : WideZ st.1 ∧ st.1.length ≤ 6 := by
        rw [hst, rdAll_eq]
        exact ⟨(rd_wide l _).1, by rw [(rd_wide l _).2]; exact rdN_le l⟩
      have hRG : RetGet W l e w3 := hret
      unfold RetGet at hRG
      rw [← hst] at HTE hRG
      have HST := Lib.hid hst
      have HWD := Lib.hid hwide.1
      have hlen6 := hwide.2
      have hsW : W.heap.size ≤ w3.heap.size := hk3.size
      have hBW := T2.out.below.size
      have hhW := T2.out.ref.lt
      clear hk3 hte hret hr3 H28 hst hwide
      rcases hRG with ⟨hok, v3, rfl, hrow3⟩ | ⟨hok, rfl⟩
      · obtain ⟨A3, c3, rfl⟩ := hrow3.slice
        have HR3 := Lib.hid hrow3
        clear hrow3
        go_wp2_with fail
        refine H29.out.mono ?_
        rintro e w4 ⟨hk4, hrt, hret⟩
        have hRG : RetGet w3 l e w4 := hret
        unfold RetGet at hRG
        rw [← HST.out] at hRG hrt
        clear hret H29
        rcases hRG with ⟨_, v4, rfl, hrow4⟩ | ⟨hno, rfl⟩
        case inr => rw [hok] at hno; cases hno
        obtain ⟨A4, c4, rfl⟩ := hrow4.slice
        have z3 := ZRow.pl_of (HR3.out.kp hk4 (fun j hj _ e => by subst e; omega)) HWD.out
        have z4 := ZRow.pl_of hrow4 HWD.out
        have hte := HTE.out.kp hk4 (fun e => T2.out.gh e) (fun j hj e => T2.out.kh (by rw [hj, e]))
        have BW4 : Hid (Below w1.heap.size w1 w4) := (T2.out.below.trans (HK3.out.below hBW (fun j hj => by rw [hj]; exact T2.out.g1))).trans (hk4.below (by omega) (fun j hj => by rw [hj]; exact T2.out.h1))
        obtain ⟨E, hrt, _⟩ := hrt
        obtain ⟨S, hS⟩ : ∃ S, S = Tp.str st.2.1 := ⟨_, rfl⟩
        have hSz : S.size = st.2.1.length := by rw [hS]; exact Tp.str_size _
        rw [← hS] at hrt
        have c0 := hrt.cell0
        have g0 := cell_regrown c0
        have C15 : Hid (∀ d' os, Calls Tryd.prog 15 #[.slice A3 st.1.length c3, .slice A4 st.1.length c4] (Sort.grow (redrawn w4 d') os) fun e w' => e = .returned (.bool true) ∧ ∃ r : Regrown, w' = Sort.grow (redrawn w4 r.d) r.os) := fun d' os => by
          have hb := below_regrown w4 d' os
          have := same_any (c := c3) (c' := c4) (z3.on hb).zs (z4.on hb).zs (by omega)
          rw [decide_eq_true rfl] at this
          exact this.mono fun e w' h => ⟨h.1, regrown_of_below (hb.trans (h.2.mono hb.size))⟩
        have C30 : Hid (∀ d' os, Calls Tryd.prog 30 #[.pointer (some ⟨g, 0, none⟩)] (Sort.grow (redrawn w4 d') os) fun e w' => e = .returned (.int .i64 (st.2.1.length : Int)) ∧ ∃ r : Regrown, w' = Sort.grow (redrawn w4 r.d) r.os) := fun d' os => by
          have hb := below_regrown w4 d' os
          exact (left_any (hte.kp (S := fun _ => False) (Tp.Kp.of_below hb _) (fun h => h) (fun _ _ h => h))).mono fun e w' h => ⟨h.1, by rw [← h.2]; exact ⟨⟨d', os⟩, rfl⟩⟩
        have q1 : ((st.2.1.length : Int) == (S.size : Int)) = true := by rw [hSz]; simp
        clear hS hrt z3 z4 hte hk4 HTE HST hSz
        go_wp2_with fail
        refine wp_region_quiet_below (by kernel_rfl) (by kernel_rfl) ?_
        repeat (go_big_quiet_step (first | exact C15.out _ _ | exact C30.out _ _))
        refine wpQuiet_nil ?_
        rintro _ ⟨⟨dq, osq⟩, rfl⟩
        go_wp2_with fail
        go_ret
        exact ⟨by simp, B1.out.trans ((BW4.out.trans ((below_regrown w4 dq osq).mono (by have := BW4.out.size; omega))).mono B1.out.size)⟩
      · have HOKF := Lib.hid hok
        clear hok
        go_wp2_with fail
        refine H29.out.mono ?_
        rintro e w4 ⟨hk4, hrt, hret⟩
        have hRG : RetGet w3 l e w4 := hret
        unfold RetGet at hRG
        rw [← HST.out] at hRG hrt
        clear hret H29
        rcases hRG with ⟨hno, v4, rfl, hrow4⟩ | ⟨_, rfl⟩
        case inl => rw [HOKF.out] at hno; cases hno
        have z3 := pl_nil w4
        have z4 := pl_nil w4
        have hte := HTE.out.kp hk4 (fun e => T2.out.gh e) (fun j hj e => T2.out.kh (by rw [hj, e]))
        have BW4 : Hid (Below w1.heap.size w1 w4) := (T2.out.below.trans (HK3.out.below hBW (fun j hj => by rw [hj]; exact T2.out.g1))).trans (hk4.below (by omega) (fun j hj => by rw [hj]; exact T2.out.h1))
        obtain ⟨E, hrt, _⟩ := hrt
        obtain ⟨S, hS⟩ : ∃ S, S = Tp.str st.2.1 := ⟨_, rfl⟩
        have hSz : S.size = st.2.1.length := by rw [hS]; exact Tp.str_size _
        rw [← hS] at hrt
        have c0 := hrt.cell0
        have g0 := cell_regrown c0
        have C15 : Hid (∀ d' os, Calls Tryd.prog 15 #[.slice none 0 0, .slice none 0 0] (Sort.grow (redrawn w4 d') os) fun e w' => e = .returned (.bool true) ∧ ∃ r : Regrown, w' = Sort.grow (redrawn w4 r.d) r.os) := fun d' os => by
          have hb := below_regrown w4 d' os
          have := same_any (c := 0) (c' := 0) (z3.on hb).zs (z4.on hb).zs (by simp)
          rw [decide_eq_true rfl] at this
          exact this.mono fun e w' h => ⟨h.1, regrown_of_below (hb.trans (h.2.mono hb.size))⟩
        have C30 : Hid (∀ d' os, Calls Tryd.prog 30 #[.pointer (some ⟨g, 0, none⟩)] (Sort.grow (redrawn w4 d') os) fun e w' => e = .returned (.int .i64 (st.2.1.length : Int)) ∧ ∃ r : Regrown, w' = Sort.grow (redrawn w4 r.d) r.os) := fun d' os => by
          have hb := below_regrown w4 d' os
          exact (left_any (hte.kp (S := fun _ => False) (Tp.Kp.of_below hb _) (fun h => h) (fun _ _ h => h))).mono fun e w' h => ⟨h.1, by rw [← h.2]; exact ⟨⟨d', os⟩, rfl⟩⟩
        have q1 : ((st.2.1.length : Int) == (S.size : Int)) = true := by rw [hSz]; simp
        clear hS hrt z3 z4 hte hk4 HTE HST hSz
        go_wp2_with fail
        refine wp_region_quiet_below (by kernel_rfl) (by kernel_rfl) ?_
        repeat (go_big_quiet_step (first | exact C15.out _ _ | exact C30.out _ _))
        refine wpQuiet_nil ?_
        rintro _ ⟨⟨dq, osq⟩, rfl⟩
        go_wp2_with fail
        go_ret
        exact ⟨by simp, B1.out.trans ((BW4.out.trans ((below_regrown w4 dq osq).mono (by have := BW4.out.size; omega))).mono B1.out.size)⟩
end Go.Proofs.YtoegmajkfaokdaaDoor
