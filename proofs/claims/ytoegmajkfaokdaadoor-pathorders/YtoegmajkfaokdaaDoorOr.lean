/- PathOrders walked. -/
import Derived.Test.YtoegmajkfaokdaaDoorWy
import Derived.Lib.QuietBelow
import Derived.BigQuiet
namespace Go.Proofs.YtoegmajkfaokdaaDoor
open Go.RowKit

/-- The law's variables, and where to stop. -/
structure OrJ (w wv : World) (P S K O : Nat) (A : Option Addr) (c : Nat) (p : List Int) (stop : Int) (k : Nat) (W : World) : Prop where
  wy : WyJ w wv P K O A c p k W
  stop : Boxed W S 3 (.int .i64 stop)

set_option maxRecDepth 100000 in
theorem clo22_any {w wv W : World} {P S K O k : Nat} {A A' : Option Addr} {c c' : Nat} {p : List Int} {stop : Int} (hp : PL w A c p) (hn : p.length ≤ 100) (h : OrJ w wv P S K O A c p stop k W) (h1 : w.heap.size ≤ P) (h2 : P < K) (h3 : K + 1 = O) (h4 : S < K) (hk : k < p.length) (hq : PL W A' c' (p.take k)) :
    Calls Tryd.prog 22 #[.slice A' k c', .pointer (some ⟨O, 0, none⟩), .pointer (some ⟨K, 0, none⟩), .pointer (some ⟨P, 0, none⟩), .pointer (some ⟨S, 0, none⟩)] W fun e W' => e = .returned (.bool ((k : Int) + 1 != stop)) ∧ OrJ w wv P S K O A c p stop (k + 1) W' ∧ KeepsOthers W W' ∧ Hold (O + 1) W W' := by
  have e1 : (p.take k).length = k := by simp; omega
  have hpl := hp.on h.wy.below
  obtain ⟨b, o, hA, hb0, _⟩ := hpl.zs (by omega)
  subst hA
  have hsl := slice_to22 ⟨b, o, none⟩ p.length k c (by have := hpl.cap; omega)
  have H15 := same_any (c := c') (c' := c) hq.zs (hpl.zs.take k) (by omega)
  rw [decide_eq_true rfl, e1] at H15
  have H15 := Lib.hid H15
  have HJ := Lib.hid h
  have cK := h.wy.cnt.cell
  have cO := h.wy.ok.cell
  have cP := h.wy.path.cell
  have hlt : (k : Int) < (p.length : Int) := by omega
  clear hp hq h hpl e1 hb0
  go_enter Tryd.func22, Tryd.ntmps22
  go_wp2_with fail
  refine H15.out.mono ?_
  rintro e W1 ⟨rfl, hb⟩
  have b1 := HJ.out.wy.cnt.kept (grown_of_below hb) (by simp)
  have b2 := HJ.out.wy.ok.kept (grown_of_below hb) (by simp)
  have b3 := HJ.out.stop.kept (grown_of_below hb) (by simp)
  have HS := Lib.hid (HJ.out.wy.step hb h1 h2 h3)
  have HST : Hid (Boxed ((W1.setCell ⟨O, 0, none⟩ (.bool true)).setCell ⟨K, 0, none⟩ (.int .i64 ((k : Int) + 1))) S 3 (.int .i64 stop)) := (b3.other (by omega) _).other (by omega) _
  have dK := b1.cell
  have fK := b1.frozen
  have dO := b2.cell
  have fO := b2.frozen
  have dS := b3.cell
  have hne : ¬ O = K := by omega
  have hne2 : ¬ K = O := by omega
  have hne3 : ¬ S = K := by omega
  have hne4 : ¬ S = O := by omega
  have hne5 : ¬ K = S := by omega
  have hne6 : ¬ O = S := by omega
  clear b1 b2 b3 hb H15 cK cO cP HJ
  go_wp2_with fail
  go_ret
  exact ⟨rfl, ⟨HS.out.1, HST.out⟩, HS.out.2.1, HS.out.2.2⟩

theorem OrJ.firm {w wv : World} {P S K O : Nat} {A : Option Addr} {c : Nat} {p : List Int} {stop : Int} {M : Nat} (hf : Firm M (WyJ w wv P K O A c p)) (hS : S < M) : Firm M (OrJ w wv P S K O A c p stop) := fun k W W' h hb =>
  ⟨hf k W W' h.wy hb, (hb.block S hS).trans h.stop⟩

set_option maxRecDepth 100000 in
set_option maxHeartbeats 4000000 in
theorem pathOrders_any {w : World} {A B : Option Addr} {c d : Nat} {p q : List Int} {stop : Int} (he : Env w) (hp : PL w A c p) (hq : PL w B d q) : Calls Tryd.prog 4 #[.slice A p.length c, .slice B q.length d, .int .i64 stop] w (Fine w) := by
  obtain ⟨wA, hwA⟩ : ∃ wA, wA = (w.alloc (.cells #[.slice A p.length c] 22)).alloc (.cells #[.int .i64 stop] 3) := ⟨_, rfl⟩
  have hbA : Below w.heap.size w wA := by rw [hwA]; exact ((Below.refl _ _).alloc (Nat.le_refl _) _).alloc (by simp) _
  have bA : Boxed wA w.heap.size 22 (.slice A p.length c) := by rw [hwA]; exact (Boxed.new w 22 _).alloc _
  have bS : Boxed wA (w.heap.size + 1) 3 (.int .i64 stop) := by
    rw [hwA]
    have := Boxed.new (w.alloc (.cells #[.slice A p.length c] 22)) 3 (.int .i64 stop)
    rwa [World.size_alloc] at this
  have sA : wA.heap.size = w.heap.size + 2 := by rw [hwA]; simp
  have H8 := Lib.hid (first_any (he.on hbA))
  have HP := Lib.hid hp
  have HQ := Lib.hid hq
  have HA := Lib.hid hbA
  have BA := Lib.hid bA
  have BS := Lib.hid bS
  have HW := Lib.hid hwA
  clear he hp hq hbA bA hwA bS
  go_enter Tryd.func4, Tryd.ntmps4
  go_wp2_with fail
  rw [← HW.out]
  refine H8.out.mono ?_
  rintro e w1 ⟨rfl, hb1⟩
  have HB1 := Lib.hid hb1
  have B1 : Hid (Below w.heap.size w w1) := HA.out.trans (hb1.mono HA.out.size)
  have bP := BA.out.kept (grown_of_below hb1) (by simp)
  have bS := BS.out.kept (grown_of_below hb1) (by simp)
  have hs1 : w.heap.size + 1 < w1.heap.size := by have := hb1.size; omega
  have hs0 : w.heap.size < w1.heap.size := by omega
  have cP := bP.cell
  have HBP := Lib.hid bP
  have HBS := Lib.hid bS
  clear hb1 bP bS H8
  by_cases hlen : 100 < p.length
  · go_wp2_with fail
    go_ret
    exact ⟨rfl, B1.out⟩
  · by_cases hlq : 100 < q.length
    · go_wp2_with fail
      go_ret
      exact ⟨rfl, B1.out⟩
    · obtain ⟨w2, hw2⟩ : ∃ w2, w2 = (w1.alloc (.cells #[.int .i64 0] 3)).alloc (.cells #[.bool true] 4) := ⟨_, rfl⟩
      have hb2 : Below w1.heap.size w1 w2 := by rw [hw2]; exact ((Below.refl _ _).alloc (Nat.le_refl _) _).alloc (by simp) _
      have s2 : w2.heap.size = w1.heap.size + 2 := by rw [hw2]; simp
      have bK : Boxed w2 w1.heap.size 3 (.int .i64 0) := by rw [hw2]; exact (Boxed.new w1 3 _).alloc _
      have bO : Boxed w2 (w1.heap.size + 1) 4 (.bool true) := by
        rw [hw2]
        have := Boxed.new (w1.alloc (.cells #[.int .i64 0] 3)) 4 (.bool true)
        rwa [World.size_alloc] at this
      have bP := HBP.out.kept (grown_of_below hb2) (by simp)
      have bS := HBS.out.kept (grown_of_below hb2) (by simp)
      have B2 : Hid (Below w.heap.size w w2) := B1.out.trans (hb2.mono B1.out.size)
      have H21 := Lib.hid (ways_any (c := c) (HP.out.on B2.out) (by omega))
      have HW2 := Lib.hid hw2
      have HK := Lib.hid bK
      have HO := Lib.hid bO
      have HP2 := Lib.hid bP
      have HS2 := Lib.hid bS
      have cP2 := bP.cell
      clear hb2 bK bO bP bS hw2 HBP HBS
      go_wp2_with fail
      rw [← HW2.out]
      refine H21.out.mono ?_
      rintro e wv ⟨g, Av, cv, rfl, bV, hrow, hg, hbv⟩
      have hsv := hbv.size
      have hgv := grown_of_below hbv
      have J0 : OrJ w wv w.heap.size (w.heap.size + 1) w1.heap.size (w1.heap.size + 1) A c p stop 0 wv :=
        ⟨⟨HK.out.kept hgv (by simp), HO.out.kept hgv (by simp), HP2.out.kept hgv (by simp), B2.out.trans (hbv.mono B2.out.size), Hold.refl _ _⟩, HS2.out.kept hgv (by simp)⟩
      have F0 : Firm wv.heap.size (OrJ w wv w.heap.size (w.heap.size + 1) w1.heap.size (w1.heap.size + 1) A c p stop) := OrJ.firm (WyJ.firm (by omega) (by omega) (by omega) (by omega) (fun k W h => h.hold.1) (Nat.le_refl _)) (by omega)
      have H42 := ways1_any (w := wv) (p := p) (f := 22) (N := g) (ptrs := #[.pointer (some ⟨w1.heap.size + 1, 0, none⟩), .pointer (some ⟨w1.heap.size, 0, none⟩), .pointer (some ⟨w.heap.size, 0, none⟩), .pointer (some ⟨w.heap.size + 1, 0, none⟩)])
        (J := OrJ w wv w.heap.size (w.heap.size + 1) w1.heap.size (w1.heap.size + 1) A c p stop) (Jx := fun k W => OrJ w wv w.heap.size (w.heap.size + 1) w1.heap.size (w1.heap.size + 1) A c p stop k W ∧ (k : Int) = stop) (enters_of Tryd.func22 (by kernel_rfl) rfl) bV (by omega)
        F0 (fun k W W' h hb => ⟨F0 k W W' h.1 hb, h.2⟩)
        (fun k W h => ZRow.pl_of (ZRow.held (B := w1.heap.size + 1 + 1) (by rw [s2] at hrow; exact hrow) h.wy.hold) HP.out.wide) J0
        (fun k W A' c' hk h hs hpl => (clo22_any HP.out (by omega) h (Nat.le_refl _) (by omega) rfl (by omega) hk hpl).mono fun e W' h2 => ⟨h2.2.2.1, ⟨h2.2.2.2.1, fun j h3 h4 => h2.2.2.2.2 j (by omega) h4⟩, _, h2.1, fun _ => h2.2.1, fun e => ⟨h2.2.1, by simpa using e⟩⟩)
      have H42 := Lib.hid H42
      clear J0 F0 bV hrow hg hbv H21 cP cP2 HW2 hgv
      go_wp2_with fail
      refine H42.out.mono ?_
      rintro e w9 ⟨⟨v9, rfl⟩, hJJ⟩
      obtain ⟨k, hJ, hend⟩ : ∃ k : Nat, OrJ w wv w.heap.size (w.heap.size + 1) w1.heap.size (w1.heap.size + 1) A c p stop k w9 ∧ (k = p.length ∨ ((k : Int) = stop ∧ k < p.length)) := by
        rcases hJJ with h | ⟨k, _, h2, h3, h4⟩
        · exact ⟨_, h, .inl rfl⟩
        · by_cases e : k = p.length
          · exact ⟨k, h3, .inl e⟩
          · exact ⟨k, h3, .inr ⟨h4, by omega⟩⟩
      have hK9 := hJ.wy.cnt.lt
      have hO9 := hJ.wy.ok.lt
      have hP9 := hJ.wy.path.lt
      have hS9 := hJ.stop.lt
      have cK := hJ.wy.cnt.cell
      have cO := hJ.wy.ok.cell
      have cP := hJ.wy.path.cell
      have cS := hJ.stop.cell
      have HB9 := Lib.hid hJ.wy.below
      have pl := HP.out.on hJ.wy.below
      have ql := HQ.out.on hJ.wy.below
      obtain ⟨bb, hbb⟩ : ∃ bb, bb = decide (BelowP p q) := ⟨_, rfl⟩
      obtain ⟨z, hz⟩ : ∃ z, z = cmpZ p q := ⟨_, rfl⟩
      have H23 : Hid (∀ W, Below w9.heap.size w9 W → Calls Tryd.prog 23 #[.slice A p.length c, .slice B q.length d] W fun e w' => e = .returned (.bool bb) ∧ Below w9.heap.size w9 w') := fun W hb => by
        rw [hbb]
        exact (below_any (pl.on hb) (ql.on hb) (by omega)).mono fun e w' h => ⟨h.1, hb.trans (h.2.mono hb.size)⟩
      have H24 : Hid (∀ W, Below w9.heap.size w9 W → Calls Tryd.prog 24 #[.slice A p.length c, .slice B q.length d] W fun e w' => e = .returned (.bool bb) ∧ Below w9.heap.size w9 w') := fun W hb => by
        rw [hbb]
        exact (refBelow_any (pl.on hb) (ql.on hb) (by omega) (by omega)).mono fun e w' h => ⟨h.1, hb.trans (h.2.mono hb.size)⟩
      have H25 : Hid (∀ W, Below w9.heap.size w9 W → Calls Tryd.prog 25 #[.slice A p.length c, .slice B q.length d] W fun e w' => e = .returned (.int .i64 z) ∧ Below w9.heap.size w9 w') := fun W hb => by
        rw [hz]
        exact (compare_any (pl.on hb).zs (ql.on hb).zs (by omega) (by omega)).mono fun e w' h => ⟨h.1, by rw [← h.2]; exact hb⟩
      have H26 : Hid (∀ W, Below w9.heap.size w9 W → Calls Tryd.prog 26 #[.slice A p.length c, .slice B q.length d] W fun e w' => e = .returned (.int .i64 z) ∧ Below w9.heap.size w9 w') := fun W hb => by
        rw [hz]
        exact (refCompare_any (pl.on hb).zs (ql.on hb).zs (by omega) (by omega)).mono fun e w' h => ⟨h.1, hb.trans (h.2.mono hb.size)⟩
      have C23 : ∀ d' os, Calls Tryd.prog 23 #[.slice A p.length c, .slice B q.length d] (Sort.grow (redrawn w9 d') os) fun e w' => e = .returned (.bool bb) ∧ ∃ r : Regrown, w' = Sort.grow (redrawn w9 r.d) r.os := fun d' os => (H23.out _ (below_regrown w9 d' os)).mono fun e w' h => ⟨h.1, regrown_of_below h.2⟩
      have C24 : ∀ d' os, Calls Tryd.prog 24 #[.slice A p.length c, .slice B q.length d] (Sort.grow (redrawn w9 d') os) fun e w' => e = .returned (.bool bb) ∧ ∃ r : Regrown, w' = Sort.grow (redrawn w9 r.d) r.os := fun d' os => (H24.out _ (below_regrown w9 d' os)).mono fun e w' h => ⟨h.1, regrown_of_below h.2⟩
      have C25 : ∀ d' os, Calls Tryd.prog 25 #[.slice A p.length c, .slice B q.length d] (Sort.grow (redrawn w9 d') os) fun e w' => e = .returned (.int .i64 z) ∧ ∃ r : Regrown, w' = Sort.grow (redrawn w9 r.d) r.os := fun d' os => (H25.out _ (below_regrown w9 d' os)).mono fun e w' h => ⟨h.1, regrown_of_below h.2⟩
      have C26 : ∀ d' os, Calls Tryd.prog 26 #[.slice A p.length c, .slice B q.length d] (Sort.grow (redrawn w9 d') os) fun e w' => e = .returned (.int .i64 z) ∧ ∃ r : Regrown, w' = Sort.grow (redrawn w9 r.d) r.os := fun d' os => (H26.out _ (below_regrown w9 d' os)).mono fun e w' h => ⟨h.1, regrown_of_below h.2⟩
      have HC23 := Lib.hid C23
      have HC24 := Lib.hid C24
      have HC25 := Lib.hid C25
      have HC26 := Lib.hid C26
      have gP := cell_regrown cP
      have gK := cell_regrown cK
      have gO := cell_regrown cO
      have gS := cell_regrown cS
      have q1 : (bb == bb) = true := by simp
      have q2 : (z == z) = true := by simp
      clear hJJ hJ H42 pl ql hbb hz H23 H24 H25 H26 C23 C24 C25 C26
      rcases hend with hk | ⟨hk, hk2⟩
      · have q3 : ((k : Int) == (p.length : Int)) = true := by rw [hk]; simp
        clear hk
        go_wp2_with fail
        refine wp_region_quiet_below (by kernel_rfl) (by kernel_rfl) ?_
        repeat (go_big_quiet_step (first | exact HC23.out _ _ | exact HC24.out _ _ | exact HC25.out _ _ | exact HC26.out _ _))
        refine wpQuiet_nil ?_
        rintro _ ⟨⟨dq, osq⟩, rfl⟩
        go_wp2_with fail
        go_ret
        exact ⟨by simp, HB9.out.trans ((below_regrown w9 dq osq).mono HB9.out.size)⟩
      · have q3 : ((k : Int) == (p.length : Int)) = false := by rw [beq_eq_false_iff_ne]; omega
        have q4 : ((k : Int) == stop) = true := by rw [hk]; simp
        have q5 : (k : Int) < (p.length : Int) := by omega
        clear hk hk2
        go_wp2_with fail
        refine wp_region_quiet_below (by kernel_rfl) (by kernel_rfl) ?_
        repeat (go_big_quiet_step (first | exact HC23.out _ _ | exact HC24.out _ _ | exact HC25.out _ _ | exact HC26.out _ _))
        refine wpQuiet_nil ?_
        rintro _ ⟨⟨dq, osq⟩, rfl⟩
        go_wp2_with fail
        go_ret
        exact ⟨by simp, HB9.out.trans ((below_regrown w9 dq osq).mono HB9.out.size)⟩
end Go.Proofs.YtoegmajkfaokdaaDoor
