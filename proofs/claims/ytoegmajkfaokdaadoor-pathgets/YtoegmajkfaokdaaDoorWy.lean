/- PathWays walked. -/
import Derived.Test.YtoegmajkfaokdaaDoorFi
namespace Go.Proofs.YtoegmajkfaokdaaDoor
open Go.RowKit

/-- The law's variables: the count, the answer, the path. -/
structure WyJ (w wv : World) (P K O : Nat) (A : Option Addr) (c : Nat) (p : List Int) (k : Nat) (W : World) : Prop where
  cnt : Boxed W K 3 (.int .i64 (k : Int))
  ok : Boxed W O 4 (.bool true)
  path : Boxed W P 22 (.slice A p.length c)
  below : Below w.heap.size w W
  hold : Hold (O + 1) wv W
theorem WyJ.step {w wv : World} {P K O : Nat} {A : Option Addr} {c : Nat} {p : List Int} {k : Nat} {W W1 : World} (h : WyJ w wv P K O A c p k W) (hb : Below W.heap.size W W1) (h1 : w.heap.size ≤ P) (h2 : P < K) (h3 : K + 1 = O) :
    WyJ w wv P K O A c p (k + 1) ((W1.setCell ⟨O, 0, none⟩ (.bool true)).setCell ⟨K, 0, none⟩ (.int .i64 ((k : Int) + 1))) ∧
    KeepsOthers W ((W1.setCell ⟨O, 0, none⟩ (.bool true)).setCell ⟨K, 0, none⟩ (.int .i64 ((k : Int) + 1))) ∧ Hold (O + 1) W ((W1.setCell ⟨O, 0, none⟩ (.bool true)).setCell ⟨K, 0, none⟩ (.int .i64 ((k : Int) + 1))) := by
  have hg := grown_of_below hb
  have a1 := h.cnt.kept hg (by simp)
  have a2 := h.ok.kept hg (by simp)
  have a3 := h.path.kept hg (by simp)
  have hb1 : Below w.heap.size w W1 := h.below.trans (hb.mono h.below.size)
  have hh : Hold (O + 1) W ((W1.setCell ⟨O, 0, none⟩ (.bool true)).setCell ⟨K, 0, none⟩ (.int .i64 ((k : Int) + 1))) := ((hold_below hb).trans (hold_set _ _ (by omega))).trans (hold_set _ _ (by omega))
  refine ⟨⟨?_, ?_, ?_, ?_, h.hold.trans hh⟩, ?_, hh⟩
  · have := (a1.other (B' := O) (by omega) (.bool true)).set (.int .i64 ((k : Int) + 1))
    rw [show ((k + 1 : Nat) : Int) = (k : Int) + 1 by omega]
    exact this
  · exact (a2.set (.bool true)).other (by omega) _
  · exact (a3.other (by omega) _).other (by omega) _
  · exact (hb1.setCell (p := ⟨O, 0, none⟩) (by simp; omega) _).setCell (p := ⟨K, 0, none⟩) (by simp; omega) _
  · exact ((keeps_below hb).trans (KeepsOthers.setCell _ _ _)).trans (KeepsOthers.setCell _ _ _)

set_option maxRecDepth 100000 in
theorem clo31_any {w wv W : World} {P K O k : Nat} {A A' : Option Addr} {c c' : Nat} {p : List Int} (hp : PL w A c p) (hn : p.length ≤ 100) (h : WyJ w wv P K O A c p k W) (h1 : w.heap.size ≤ P) (h2 : P < K) (h3 : K + 1 = O) (hk : k < p.length) (hq : PL W A' c' (p.take k)) :
    Calls Tryd.prog 31 #[.slice A' k c', .pointer (some ⟨O, 0, none⟩), .pointer (some ⟨K, 0, none⟩), .pointer (some ⟨P, 0, none⟩)] W fun e W' => e = .returned (.bool true) ∧ WyJ w wv P K O A c p (k + 1) W' ∧ KeepsOthers W W' ∧ Hold (O + 1) W W' := by
  have e1 : (p.take k).length = k := by simp; omega
  have hpl := hp.on h.below
  have H23 := below_any (c := c) (c' := c') hpl hq (by omega)
  rw [decide_eq_true (belowP_take hk), e1] at H23
  have H23 := Lib.hid H23
  have HC : Hid (∀ W2, Below W.heap.size W W2 → Calls Tryd.prog 25 #[.slice A' k c', .slice A p.length c] W2 fun e w' => e = .returned (.int .i64 (-1)) ∧ W2 = w') := fun W2 hb => by
    have := compare_any (c1 := c') (c2 := c) (hq.on hb).zs (hpl.on hb).zs (by omega) (by omega)
    rwa [belowP_cmp (belowP_take hk), e1] at this
  have HJ := Lib.hid h
  have cK := h.cnt.cell
  have cO := h.ok.cell
  have cP := h.path.cell
  clear hp hq h hpl e1
  go_enter Tryd.func31, Tryd.ntmps31
  go_wp2_with fail
  refine H23.out.mono ?_
  rintro e W1 ⟨rfl, hb⟩
  have H25 := Lib.hid (HC.out W1 hb)
  have b1 := HJ.out.cnt.kept (grown_of_below hb) (by simp)
  have b2 := HJ.out.ok.kept (grown_of_below hb) (by simp)
  have b3 := HJ.out.path.kept (grown_of_below hb) (by simp)
  have HS := Lib.hid (HJ.out.step hb h1 h2 h3)
  have dK := b1.cell
  have fK := b1.frozen
  have dO := b2.cell
  have fO := b2.frozen
  have dP := b3.cell
  have hne : ¬ O = K := by omega
  have hne2 : ¬ K = O := by omega
  clear b1 b2 b3 hb H23 cK cO cP HJ
  go_wp2_with (first | (go_at_call 25; refine H25.out.mono ?_; rintro e w' ⟨rfl, rfl⟩))
  go_ret
  exact ⟨rfl, HS.out.1, HS.out.2.1, HS.out.2.2⟩
theorem ZRow.held {w W : World} {B : Nat} {v : Value} {l : List Int} (h : ZRow w B v l) (hh : Hold B w W) : ZRow W B v l := by
  have h0 : w.ownsRow B 3 1 v l.length (zCellsOf l) := h
  refine ⟨h0.1, ?_⟩
  rcases h0.2 with h2 | ⟨g, cap, cur, hv, hb, hr, hs⟩
  · exact .inl h2
  · have hlt := (h0.lt g (by rw [hv]; rfl))
    exact .inr ⟨g, cap, cur, hv, hb, (hh.2 g hb hlt.2).trans hr, hs⟩
theorem ZRow.pl_of {w : World} {B : Nat} {A : Option Addr} {c : Nat} {l : List Int} (h : ZRow w B (.slice A l.length c) l) (hw : WideZ l) : PL w A c l := by
  obtain ⟨A', c', hv, hp⟩ := h.pl hw
  injection hv with h1 _ h3
  subst h1 h3
  exact hp
theorem WyJ.firm {w wv : World} {P K O : Nat} {A : Option Addr} {c : Nat} {p : List Int} {M : Nat} (hM : O < M) (hw : w.heap.size ≤ M) (hPK : P < M) (hK : K < M) (hv : ∀ k W, WyJ w wv P K O A c p k W → M ≤ W.heap.size) (hv2 : wv.heap.size ≤ M) : Firm M (WyJ w wv P K O A c p) := fun k W W' h hb => by
  have hs := hv k W h
  refine ⟨(hb.block K hK).trans h.cnt, (hb.block O hM).trans h.ok, (hb.block P hPK).trans h.path, h.below.trans (hb.mono hw), Nat.le_trans h.hold.1 hb.size, fun k h1 h2 => ?_⟩
  exact (hb.block k (by omega)).trans (h.hold.2 k h1 h2)

set_option maxRecDepth 100000 in
set_option maxHeartbeats 2000000 in
theorem pathWays_any {w : World} {A : Option Addr} {c : Nat} {p : List Int} (he : Env w) (hp : PL w A c p) : Calls Tryd.prog 7 #[.slice A p.length c] w (Fine w) := by
  obtain ⟨wA, hwA⟩ : ∃ wA, wA = w.alloc (.cells #[.slice A p.length c] 22) := ⟨_, rfl⟩
  have hbA : Below w.heap.size w wA := by rw [hwA]; exact (Below.refl _ _).alloc (Nat.le_refl _) _
  have bA : Boxed wA w.heap.size 22 (.slice A p.length c) := by rw [hwA]; exact Boxed.new w 22 _
  have sA : wA.heap.size = w.heap.size + 1 := by rw [hwA]; simp
  have H8 := Lib.hid (first_any (he.on hbA))
  have HP := Lib.hid hp
  have HA := Lib.hid hbA
  have BA := Lib.hid bA
  have HW := Lib.hid hwA
  clear he hp hbA bA hwA
  go_enter Tryd.func7, Tryd.ntmps7
  go_wp2_with fail
  rw [← HW.out]
  refine H8.out.mono ?_
  rintro e w1 ⟨rfl, hb1⟩
  have HB1 := Lib.hid hb1
  have B1 : Hid (Below w.heap.size w w1) := HA.out.trans (hb1.mono HA.out.size)
  have bP := BA.out.kept (grown_of_below hb1) (by simp)
  have hs1 : w.heap.size < w1.heap.size := by have := hb1.size; omega
  have cP := bP.cell
  have HBP := Lib.hid bP
  clear hb1 bP H8
  by_cases hlen : 100 < p.length
  · go_wp2_with fail
    go_ret
    exact ⟨rfl, B1.out⟩
  · obtain ⟨w2, hw2⟩ : ∃ w2, w2 = (w1.alloc (.cells #[.int .i64 0] 3)).alloc (.cells #[.bool true] 4) := ⟨_, rfl⟩
    have hb2 : Below w1.heap.size w1 w2 := by rw [hw2]; exact ((Below.refl _ _).alloc (Nat.le_refl _) _).alloc (by simp) _
    have s2 : w2.heap.size = w1.heap.size + 2 := by rw [hw2]; simp
    have bK : Boxed w2 w1.heap.size 3 (.int .i64 0) := by rw [hw2]; exact (Boxed.new w1 3 _).alloc _
    have bO : Boxed w2 (w1.heap.size + 1) 4 (.bool true) := by
      rw [hw2]
      have := Boxed.new (w1.alloc (.cells #[.int .i64 0] 3)) 4 (.bool true)
      rwa [World.size_alloc] at this
    have bP := HBP.out.kept (grown_of_below hb2) (by simp)
    have B2 : Hid (Below w.heap.size w w2) := B1.out.trans (hb2.mono B1.out.size)
    have H21 := Lib.hid (ways_any (c := c) (HP.out.on B2.out) (by omega))
    have HW2 := Lib.hid hw2
    have HK := Lib.hid bK
    have HO := Lib.hid bO
    have HP2 := Lib.hid bP
    have cP2 := bP.cell
    clear hb2 bK bO bP hw2 HBP
    go_wp2_with fail
    rw [← HW2.out]
    refine H21.out.mono ?_
    rintro e wv ⟨g, Av, cv, rfl, bV, hrow, hg, hbv⟩
    have hsv := hbv.size
    have hgv := grown_of_below hbv
    have J0 : WyJ w wv w.heap.size w1.heap.size (w1.heap.size + 1) A c p 0 wv :=
      ⟨HK.out.kept hgv (by simp), HO.out.kept hgv (by simp), HP2.out.kept hgv (by simp), B2.out.trans (hbv.mono B2.out.size), Hold.refl _ _⟩
    have H42 := ways1_any (w := wv) (p := p) (f := 31) (N := g) (ptrs := #[.pointer (some ⟨w1.heap.size + 1, 0, none⟩), .pointer (some ⟨w1.heap.size, 0, none⟩), .pointer (some ⟨w.heap.size, 0, none⟩)])
      (J := WyJ w wv w.heap.size w1.heap.size (w1.heap.size + 1) A c p) (Jx := fun _ _ => False) (enters_of Tryd.func31 (by kernel_rfl) rfl) bV (by omega)
      (WyJ.firm (by omega) (by omega) (by omega) (by omega) (fun k W h => h.hold.1) (Nat.le_refl _)) (fun _ _ _ h _ => h)
      (fun k W h => ZRow.pl_of (ZRow.held (B := w1.heap.size + 1 + 1) (by rw [s2] at hrow; exact hrow) h.hold) HP.out.wide) J0
      (fun k W A' c' hk h hs hpl => (clo31_any HP.out (by omega) h (Nat.le_refl _) (by omega) rfl hk hpl).mono fun e W' h2 => ⟨h2.2.2.1, ⟨h2.2.2.2.1, fun j h3 h4 => h2.2.2.2.2 j (by omega) h4⟩, true, h2.1, fun _ => h2.2.1, fun e => by cases e⟩)
    have H42 := Lib.hid H42
    clear J0 bV hrow hg hbv H21 cP cP2 HW2 hgv
    go_wp2_with fail
    refine H42.out.mono ?_
    rintro e w9 ⟨⟨v9, rfl⟩, hJ | ⟨k, _, _, hF⟩⟩
    case inr => exact hF.elim
    have cK := hJ.cnt.cell
    have cO := hJ.ok.cell
    have cP := hJ.path.cell
    have HJ := Lib.hid hJ
    clear hJ H42
    go_wp2_with fail
    go_ret
    exact ⟨by simp, HJ.out.below⟩
end Go.Proofs.YtoegmajkfaokdaaDoor
