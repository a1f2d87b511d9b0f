/- path.Ways: what it hands back, and that at a function. -/
import Derived.Test.YtoegmajkfaokdaaDoorBe
import Derived.Stop.RegionWithIn
namespace Go.Proofs.YtoegmajkfaokdaaDoor
open Go.RowKit Go.Shelf

attribute [local go_sem] Oper.semAt_some

theorem ZRow.more {w : World} {B B' : Nat} {v : Value} {l : List Int} (h : ZRow w B' v l) (hB : B ≤ B') : ZRow w B v l := by
  have h0 : w.ownsRow B' 3 1 v l.length (zCellsOf l) := h
  obtain ⟨h1, h2⟩ := h0
  refine ⟨h1, ?_⟩
  rcases h2 with h2 | ⟨g, cap, cur, e, hbb, r⟩
  · exact .inl h2
  · exact .inr ⟨g, cap, cur, e, Nat.le_trans hB hbb, r⟩

/-- A function that holds a copy of p, in memory not below block B. -/
def RetWays (w : World) (p : List Int) (e : Ending) (w' : World) : Prop :=
  ∃ g A c, e = .returned (.func (.func 42) #[] #[.pointer (some ⟨g, 0, none⟩)]) ∧ Boxed w' g 22 (.slice A p.length c) ∧ ZRow w' w.heap.size (.slice A p.length c) p ∧ w.heap.size ≤ g ∧ Below w.heap.size w w'

set_option maxRecDepth 100000 in
theorem ways_any {w : World} {A : Option Addr} {c : Nat} {p : List Int} (h : PL w A c p) (hn : p.length ≤ 100000) : Calls Tryd.prog 21 #[.slice A p.length c] w (RetWays w p) := by
  have HC := Lib.hid (cloneZ_any (c := c) h.zs h.nil (by omega))
  clear h
  go_enter Tryd.func21, Tryd.ntmps21
  go_wp2_with fail
  refine HC.out.mono ?_
  rintro e w1 ⟨v, rfl, hrow, hb1⟩
  obtain ⟨A1, c1, rfl⟩ := hrow.slice
  have HR := Lib.hid hrow
  have HB := Lib.hid hb1
  clear hrow hb1 HC
  go_wp2_with fail
  go_ret
  exact ⟨w1.heap.size, A1, c1, rfl, Boxed.new w1 22 _, World.ownsRow.alloc HR.out _, HB.out.size, HB.out.alloc HB.out.size _⟩

/-- Blocks from M on lie as they lay. -/
def Hold (M : Nat) (W W' : World) : Prop := W.heap.size ≤ W'.heap.size ∧ ∀ k, M ≤ k → k < W.heap.size → W'.heap[k]? = W.heap[k]?
theorem Hold.refl (M : Nat) (W : World) : Hold M W W := ⟨Nat.le_refl _, fun _ _ _ => rfl⟩
theorem Hold.trans {M : Nat} {A B C : World} (h : Hold M A B) (h' : Hold M B C) : Hold M A C := ⟨Nat.le_trans h.1 h'.1, fun k h1 h2 => (h'.2 k h1 (Nat.lt_of_lt_of_le h2 h.1)).trans (h.2 k h1 h2)⟩
theorem hold_below {M : Nat} {W W' : World} (h : Below W.heap.size W W') : Hold M W W' := ⟨h.size, fun k _ hk => h.block k hk⟩
theorem hold_set {M g : Nat} (W : World) (v : Value) (hg : g < M) : Hold M W (W.setCell ⟨g, 0, none⟩ v) := by
  refine ⟨(grownBy_setCell' W g v).size, fun k hk hl => (grownBy_setCell' W g v).block k hl ?_⟩
  intro e
  injection e with e
  omega
theorem Hold.keep {M N : Nat} {W W' : World} (h : Hold M W W') (hN : M ≤ N) : KeepB N W W' := fun hl => h.2 N hN hl

variable {w : World} {p : List Int}
/-- The rounds' state: as many as J says, and the function's own variable. -/
def WaI (M : Nat) (J : Nat → World → Prop) (fv : Value) (pre : List Nat) (W : World) : Prop := J pre.length W ∧ Boxed W M 26 fv ∧ M + 2 ≤ W.heap.size
def WaX (L : Nat) (Jx : Nat → World → Prop) (M : Nat) (c : Code) (pre : List Nat) (W : World) : Prop := c = .ret ∧ Jx pre.length W ∧ 1 ≤ pre.length ∧ pre.length ≤ L ∧ M + 2 ≤ W.heap.size
/-- J abides whatever is done from block M on. -/
def Firm (M : Nat) (J : Nat → World → Prop) : Prop := ∀ k W W', J k W → Below M W W' → J k W'
theorem below_putObj {M l : Nat} {W : World} {o' : Obj} (hl : M ≤ l) (hs : M ≤ W.heap.size) : Below M W (W.putObj l o') := (Below.refl M W).grown (grownBy_putObj' W l o') hs (fun k e => by cases e; exact hl)
theorem WaI.own {M : Nat} {J : Nat → World → Prop} {fv : Value} (hJ : Firm M J) {n : Nat} (hn : n = M + 2) : Abides n (WaI M J fv) := by
  subst hn
  refine ⟨fun s W o ⟨h1, h2, h3⟩ => ⟨hJ _ _ _ h1 ((Below.refl M W).alloc (by omega) o), h2.alloc o, by simp; omega⟩, fun s W l o o' ⟨h1, h2, h3⟩ hl ho _ => ⟨hJ _ _ _ h1 (below_putObj (by omega) (by omega)), ?_, ?_⟩⟩
  · exact h2.kept (grownBy_putObj' W l o') (by intro e; injection e; omega)
  · exact Nat.le_trans h3 (grownBy_putObj' W l o').size
theorem WaX.own {L M : Nat} {Jx : Nat → World → Prop} (hJ : Firm M Jx) {n : Nat} (hn : n = M + 2) (c : Code) : Abides n (WaX L Jx M c) := by
  subst hn
  refine ⟨fun s W o ⟨h1, h2, h3, h4, h5⟩ => ⟨h1, hJ _ _ _ h2 ((Below.refl M W).alloc (by omega) o), h3, h4, by simp; omega⟩, fun s W l o o' ⟨h1, h2, h3, h4, h5⟩ hl ho _ => ⟨h1, hJ _ _ _ h2 (below_putObj (by omega) (by omega)), h3, h4, ?_⟩⟩
  exact Nat.le_trans h5 (grownBy_putObj' W l o').size

set_option maxRecDepth 100000 in
set_option maxHeartbeats 4000000 in
theorem ways1_any {A : Option Addr} {c N f : Nat} {ptrs : Array Value} {J Jx : Nat → World → Prop} (hen : ∀ args W, (callFunc f args).run Tryd.prog W = .ok (.enter f args) W) (hV : Boxed w N 22 (.slice A p.length c)) (hn : p.length ≤ 100000) (hJ : Firm w.heap.size J) (hJx : Firm w.heap.size Jx)
    (hJp : ∀ k W, J k W → PL W A c p) (h0 : J 0 w)
    (hF : ∀ k W A' c', k < p.length → J k W → w.heap.size ≤ W.heap.size → PL W A' c' (p.take k) → Calls Tryd.prog f (#[.slice A' k c'] ++ ptrs) W fun e W' => KeepsOthers W W' ∧ Hold w.heap.size W W' ∧
      ∃ bb, e = .returned (.bool bb) ∧ (bb = true → J (k + 1) W') ∧ (bb = false → Jx (k + 1) W')) :
    Calls Tryd.prog 42 #[.func (.func f) #[] ptrs, .pointer (some ⟨N, 0, none⟩)] w fun e w' => (∃ v, e = .returned v) ∧ (J p.length w' ∨ ∃ k, 1 ≤ k ∧ k ≤ p.length ∧ Jx k w') := by
  obtain ⟨W0, hW0⟩ : ∃ W0, W0 = (w.alloc (.cells #[.func (.func f) #[] ptrs] 26)).alloc (.cells #[.slice A p.length c] 22) := ⟨_, rfl⟩
  have hsz : W0.heap.size = w.heap.size + 2 := by rw [hW0]; simp
  have b0 : Boxed W0 w.heap.size 26 (.func (.func f) #[] ptrs) := by rw [hW0]; exact (Boxed.new w 26 _).alloc _
  have b1 : Boxed W0 (w.heap.size + 1) 22 (.slice A p.length c) := by
    rw [hW0]
    have := Boxed.new (w.alloc (.cells #[.func (.func f) #[] ptrs] 26)) 22 (.slice A p.length c)
    rwa [World.size_alloc] at this
  have bl : Below w.heap.size w W0 := by
    rw [hW0]
    exact ((Below.refl _ w).alloc (Nat.le_refl _) _).alloc (by simp) _
  have hp0 := hJp 0 w h0
  have HI : Hid (WaI w.heap.size J (.func (.func f) #[] ptrs) [] W0) := ⟨hJ 0 w W0 h0 bl, b0, by omega⟩
  have HV := Lib.hid b1
  have HZ := Lib.hid hsz
  have HW := Lib.hid hW0
  have HJ := Lib.hid hJ
  have HJX := Lib.hid hJx
  have HJP := Lib.hid hJp
  have HF := Lib.hid hF
  have HA : Hid (0 < p.length → ∃ a, A = some a) := fun h => by
    obtain ⟨b, o, hA, _⟩ := hp0.zs h
    exact ⟨_, hA⟩
  have HC := Lib.hid hp0.cap
  have cN := ((Boxed.alloc hV (.cells #[.func (.func f) #[] ptrs] 26))).cell
  clear b0 b1 bl hsz hW0 hp0 hJ hJx hJp hF h0 hV
  refine (callsIn_wide (n := 5)).1 ?_
  refine callsIn_of_wp_marks Tryd.func42 rfl trivial ?_ rfl
  simp only [Tryd.ntmps42, List.size_toArray, List.length_cons, List.length_nil, Nat.reduceAdd, Nat.reduceSub, Array.replicate_succ, Array.replicate_zero, List.push_toArray, List.append_toArray, List.nil_append, List.cons_append]
  gi_wp2_with (refine ⟨trivial, ?_⟩; gi_at_call 43; refine (callsIn_wide.2 (prefixes_any A p.length c _)).mono ?_; rintro e w' ⟨rfl, rfl⟩)
  rw [← HW.out]
  refine wpIn_rangeFunc_steps rfl (by omega) (gf := 58) (lb := #[.pointer (some ⟨w.heap.size + 1, 0, none⟩)]) rfl trivial (enters_of Tryd.func58 (by kernel_rfl) rfl)
    (prefixes_gives 4 (by omega) (w.heap.size + 1) A p.length c HA.out (by omega) HC.out W0 HV.out) (fun h h' => h.trans h')
    (fun W o h => (World.grownBy_alloc W o none).block _ h (by simp)) (fun W l o' hl _ => World.putObj_heap_other (by have := HZ.out; omega))
    (fun A B k o hG hk ho hc => by subst hG; exact ho) (fun _ => rfl)
    (WaI w.heap.size J (.func (.func f) #[] ptrs)) (WaX p.length Jx w.heap.size) (WaI.own HJ.out HZ.out) (WaX.own HJX.out HZ.out) (fun _ _ _ h e => by subst e; exact h) (fun _ _ _ _ h e => by subst e; exact h)
    HI.out
    (fun x => { tmps := #[.func (.func f) #[] ptrs, .pointer (some ⟨N, 0, none⟩), .pointer (some ⟨w.heap.size, 0, none⟩), .slice A x c, .slice A p.length c, .func (.func 58) #[] #[.pointer (some ⟨w.heap.size + 1, 0, none⟩)], .slice A x c, undef, undef, undef, undef, undef], defers := [] }) ?assign ?body ?done ?stop
  case assign =>
    intro l x W K hK
    gi_wp2
    exact hK
  case body =>
    rintro l pre x W ⟨hj, hbf, hs⟩ ⟨hxp, hx⟩
    rw [← hxp] at hj
    have HXP := Lib.hid hxp
    have hpl := HJP.out x W hj
    have e1 : (p.take x).length = x := by simp; omega
    have HCL : Hid (∀ W2, Below W.heap.size W W2 → Calls Tryd.prog 37 #[.slice A x c] W2 fun e w' => ∃ A' c', e = .returned (.slice A' x c') ∧ PL w' A' c' (p.take x) ∧ Below W.heap.size W w') := fun W2 hW2 => by
      have := cloneZ_any (c := c) (l := p.take x) (((hpl.zs.take x).below hW2).more hW2.size) hpl.nil (by omega)
      rw [e1] at this
      refine this.mono ?_
      rintro e w' ⟨v, rfl, hr, hb2⟩
      obtain ⟨A', c', rfl, hpl'⟩ := hr.pl (hpl.wide.take x)
      rw [e1]
      exact ⟨A', c', rfl, hpl', hW2.trans (hb2.mono hW2.size)⟩
    have c0 : W.cell? ⟨w.heap.size, 0, none⟩ = some (.func (.func f) #[] ptrs) := hbf.cell
    have HS := Lib.hid hs
    have HBF := Lib.hid hbf
    have HJW := Lib.hid hj
    have HFX : Hid (∀ W2 A' c', Below W.heap.size W W2 → PL W2 A' c' (p.take x) → Calls Tryd.prog f (#[.slice A' x c'] ++ ptrs) W2 fun e W' => KeepsOthers W2 W' ∧ Hold w.heap.size W2 W' ∧
      ∃ bb, e = .returned (.bool bb) ∧ (bb = true → J (x + 1) W') ∧ (bb = false → Jx (x + 1) W')) := fun W2 A' c' hb hp2 => HF.out x W2 A' c' hx (HJ.out x W W2 hj (hb.mono (by omega))) (by have := hb.size; omega) hp2
    clear hj hbf hpl e1 HI HV HW HA HC cN hxp
    gi_wp2_with fail
    gi_region_with (first
      | (refine ⟨trivial, ?_⟩; gi_at_call 37; refine (CallsIn.inRound l (callsIn_wide.2 (HCL.out _ (Below.refl _ _).drew))).mono ?_; rintro e W2 ⟨A', c', rfl, hpl2, hb2⟩; have c0' : W2.cell? ⟨w.heap.size, 0, none⟩ = some (.func (.func f) #[] ptrs) := (hb2.cell (p := ⟨w.heap.size, 0, none⟩) (by have := HS.out; simp; omega)).trans c0)
      | (refine ⟨trivial, ?_⟩; refine (CallsIn.inRound l (callsIn_wide.2 (HFX.out _ _ _ hb2 hpl2))).mono ?_; rintro e W3 ⟨hk3, hh3, bb, rfl, hj3, hx3⟩))
    all_goals (
      have KB : Hid (KeepsOthers W W3) := (keeps_below hb2).trans hk3
      have HO : Hid (Hold w.heap.size W W3) := (hold_below hb2).trans hh3
      have HJ3 := Lib.hid hj3
      have HX3 := Lib.hid hx3
      clear hk3 hh3 hj3 hx3 hb2 hpl2 c0
      have HB3 : Hid (Boxed W3 w.heap.size 26 (.func (.func f) #[] ptrs)) := boxed_keep HBF.out (HO.out.keep (Nat.le_refl _))
      have hs3 : w.heap.size + 2 ≤ W3.heap.size := Nat.le_trans HS.out HO.out.1
      have HLEN : Hid ((pre ++ [x]).length = x + 1) := by rw [Hid, List.length_append, ← HXP.out]; rfl
      cases bb with
      | true =>
        have H4 := Lib.hid (HJ3.out rfl)
        gi_wp2_with fail
        exact ⟨KB.out, HO.out.keep (by omega), by rw [HLEN.out]; exact H4.out, HB3.out, hs3⟩
      | false =>
        have H4 := Lib.hid (HX3.out rfl)
        gi_wp2_with fail
        exact ⟨KB.out, rfl, by rw [HLEN.out]; exact H4.out, by rw [HLEN.out]; omega, by rw [HLEN.out]; omega, hs3⟩)
  case done =>
    rintro D ys W hD rfl ⟨hj, _, hs⟩ hK
    have HJ3 := Lib.hid hj
    clear hj
    gi_wp2
    refine ⟨by simp, .inl ⟨_, _, rfl, run_takeDeferred hK, ?_⟩⟩
    refine ⟨.tuple #[], ?_, ⟨_, rfl⟩, .inl ?_⟩
    · simp [results, Tryd.f42, go_sem]
    · have := HJ3.out
      rw [List.length_range] at this
      exact HJ.out _ _ _ this (below_putObj (by have := HZ.out; omega) (by omega))
  case stop =>
    rintro D c pre W hD hpre ⟨rfl, hj, h1, h2, hs⟩ hK
    have HJ3 := Lib.hid hj
    clear hj
    gi_wp2
    refine ⟨by simp, .inl ⟨_, _, rfl, run_takeDeferred hK, ?_⟩⟩
    refine ⟨.tuple #[], ?_, ⟨_, rfl⟩, .inr ⟨_, h1, h2, ?_⟩⟩
    · simp [results, Tryd.f42, go_sem]
    · exact HJX.out _ _ _ HJ3.out (below_putObj (by have := HZ.out; omega) (by omega))
end Go.Proofs.YtoegmajkfaokdaaDoor
