/- path.Below. -/
import Derived.Test.YtoegmajkfaokdaaDoorPf
namespace Go.Proofs.YtoegmajkfaokdaaDoor
open Go.RowKit Go.Shelf

attribute [local go_sem] Oper.semAt_some

theorem keeps_below {W W' : World} (h : Below W.heap.size W W') : KeepsOthers W W' := KeepsOthers.of_grownBy (grown_of_below h) (fun _ _ e _ => by cases e)

/-- Between two rounds: none of the prefixes so far is the one. -/
def BeI (w : World) (p q : List Int) (vq : Value) (pre : List Nat) (W : World) : Prop :=
  (∀ k ∈ pre, ¬ p.take k = q) ∧ Boxed W w.heap.size 22 vq ∧ Boxed W (w.heap.size + 1) 4 (.bool false) ∧ Below w.heap.size w W ∧ w.heap.size + 3 ≤ W.heap.size
/-- Where a round has found it. -/
def BeX (w : World) (p q : List Int) (c : Code) (pre : List Nat) (W : World) : Prop :=
  c = .ret ∧ (∃ k, k ∈ pre ∧ p.take k = q) ∧ Boxed W (w.heap.size + 1) 4 (.bool true) ∧ Below w.heap.size w W ∧ w.heap.size + 3 ≤ W.heap.size
theorem BeI.own {w : World} {p q : List Int} {vq : Value} {n : Nat} (hn : n = w.heap.size + 3) : Abides n (BeI w p q vq) := by
  subst hn
  refine ⟨fun s W o ⟨h1, h2, h3, h4, h5⟩ => ⟨h1, h2.alloc o, h3.alloc o, h4.alloc (by omega) o, by simp; omega⟩, fun s W l o o' ⟨h1, h2, h3, h4, h5⟩ hl ho _ => ⟨h1, ?_, ?_, ?_, ?_⟩⟩
  · exact h2.kept (grownBy_putObj' W l o') (by intro e; injection e; omega)
  · exact h3.kept (grownBy_putObj' W l o') (by intro e; injection e; omega)
  · exact h4.grown (grownBy_putObj' W l o') h4.size (fun k e => by cases e; omega)
  · exact Nat.le_trans h5 (grownBy_putObj' W l o').size
theorem BeX.own {w : World} {p q : List Int} {n : Nat} (hn : n = w.heap.size + 3) (c : Code) : Abides n (BeX w p q c) := by
  subst hn
  refine ⟨fun s W o ⟨h1, h2, h3, h4, h5⟩ => ⟨h1, h2, h3.alloc o, h4.alloc (by omega) o, by simp; omega⟩, fun s W l o o' ⟨h1, h2, h3, h4, h5⟩ hl ho _ => ⟨h1, h2, ?_, ?_, ?_⟩⟩
  · exact h3.kept (grownBy_putObj' W l o') (by intro e; injection e; omega)
  · exact h4.grown (grownBy_putObj' W l o') h4.size (fun k e => by cases e; omega)
  · exact Nat.le_trans h5 (grownBy_putObj' W l o').size

set_option maxRecDepth 100000 in
set_option maxHeartbeats 4000000 in
theorem below_any {w : World} {A A' : Option Addr} {c c' : Nat} {p q : List Int} (hp : PL w A c p) (hq : PL w A' c' q) (hn : p.length ≤ 1000000) : Calls Tryd.prog 23 #[.slice A p.length c, .slice A' q.length c'] w (RetB w (.bool (decide (BelowP p q)))) := by
  obtain ⟨W0, hW0⟩ : ∃ W0, W0 = ((w.alloc (.cells #[.slice A' q.length c'] 22)).alloc (.cells #[.bool false] 4)).alloc (.cells #[.slice A p.length c] 22) := ⟨_, rfl⟩
  have hsz : W0.heap.size = w.heap.size + 3 := by rw [hW0]; simp
  have b0 : Boxed W0 w.heap.size 22 (.slice A' q.length c') := by rw [hW0]; exact ((Boxed.new w 22 _).alloc _).alloc _
  have b1 : Boxed W0 (w.heap.size + 1) 4 (.bool false) := by
    rw [hW0]
    have := Boxed.new (w.alloc (.cells #[.slice A' q.length c'] 22)) 4 (.bool false)
    rw [World.size_alloc] at this
    exact this.alloc _
  have b2 : Boxed W0 (w.heap.size + 2) 22 (.slice A p.length c) := by
    rw [hW0]
    have := Boxed.new ((w.alloc (.cells #[.slice A' q.length c'] 22)).alloc (.cells #[.bool false] 4)) 22 (.slice A p.length c)
    simp only [World.size_alloc] at this
    exact this
  have bl : Below w.heap.size w W0 := by
    rw [hW0]
    exact (((Below.refl _ w).alloc (Nat.le_refl _) _).alloc (by simp) _).alloc (by simp; omega) _
  have HI : Hid (BeI w p q (.slice A' q.length c') [] W0) := ⟨by simp, b0, b1, bl, Nat.le_of_eq hsz.symm⟩
  have HV := Lib.hid b2
  have HZ := Lib.hid hsz
  have HW := Lib.hid hW0
  have HP := Lib.hid hp
  have HQ := Lib.hid hq
  have HA : Hid (0 < p.length → ∃ a, A = some a) := fun h => by
    obtain ⟨b, o, hA, _⟩ := HP.out.zs h
    exact ⟨_, hA⟩
  have HC := Lib.hid hp.cap
  clear b0 b1 b2 bl hsz hW0 hp hq
  refine (callsIn_wide (n := 5)).1 ?_
  refine callsIn_of_wp_marks Tryd.func23 rfl trivial ?_ rfl
  simp only [Tryd.ntmps23, List.size_toArray, List.length_cons, List.length_nil, Nat.reduceAdd, Nat.reduceSub, Array.replicate_succ, Array.replicate_zero, List.push_toArray, List.append_toArray, List.nil_append, List.cons_append]
  gi_wp2_with (refine ⟨trivial, ?_⟩; gi_at_call 43; refine (callsIn_wide.2 (prefixes_any A p.length c _)).mono ?_; rintro e w' ⟨rfl, rfl⟩)
  rw [← HW.out]
  refine wpIn_rangeFunc_steps rfl (by omega) (gf := 58) (lb := #[.pointer (some ⟨w.heap.size + 1 + 1, 0, none⟩)]) rfl trivial (enters_of Tryd.func58 (by kernel_rfl) rfl)
    (prefixes_gives 4 (by omega) (w.heap.size + 2) A p.length c HA.out hn HC.out W0 HV.out) (fun h h' => h.trans h')
    (fun W o h => (World.grownBy_alloc W o none).block _ h (by simp)) (fun W l o' hl _ => World.putObj_heap_other (by have := HZ.out; omega))
    (fun A B k o hG hk ho hc => by subst hG; exact ho) (fun _ => rfl)
    (BeI w p q (.slice A' q.length c')) (BeX w p q) (BeI.own HZ.out) (BeX.own HZ.out) (fun _ _ _ h e => by subst e; exact h) (fun _ _ _ _ h e => by subst e; exact h)
    HI.out
    (fun x => { tmps := #[.slice A p.length c, .slice A' q.length c', undef, .pointer (some ⟨w.heap.size, 0, none⟩), .pointer (some ⟨w.heap.size + 1, 0, none⟩), .slice A x c, .slice A p.length c, .func (.func 58) #[] #[.pointer (some ⟨w.heap.size + 1 + 1, 0, none⟩)], .slice A x c, undef, undef, undef], defers := [] }) ?assign ?body ?done ?stop
  case assign =>
    intro l x W K hK
    gi_wp2
    exact hK
  case body =>
    rintro l pre x W ⟨hno, hbq, hbr, hB, hs⟩ ⟨hxp, hx⟩
    clear hxp
    have hpl := HP.out.on hB
    have hql := HQ.out.on hB
    have e1 : (p.take x).length = x := by simp; omega
    have H44 := equalZ_any (c := c) (c' := c') (hpl.zs.take x) hql.zs (by omega)
    rw [e1] at H44
    have H44 := Lib.hid H44
    have c0 : W.cell? ⟨w.heap.size, 0, none⟩ = some (.slice A' q.length c') := hbq.cell
    have HNO := Lib.hid hno
    have HBQ := Lib.hid hbq
    have HBR := Lib.hid hbr
    have HB := Lib.hid hB
    clear hno hbq hbr hB hpl hql e1 HI HV HW HZ HA HC
    by_cases heq : p.take x = q
    · have hd : decide (p.take x = q) = true := decide_eq_true heq
      rw [hd] at H44
      have HEQ := Lib.hid heq
      clear heq hd
      gi_wp2_with fail
      refine ⟨trivial, ?_⟩
      refine (CallsIn.inRound l (callsIn_wide.2 H44.out)).mono ?_
      rintro e W2 ⟨rfl, hb2⟩
      have KB := Lib.hid (keeps_below hb2)
      have R2 := HBR.out.kept (grown_of_below hb2) (by simp)
      have HB2 : Hid (Below w.heap.size w W2) := HB.out.trans (hb2.mono HB.out.size)
      have hs2 : w.heap.size + 3 ≤ W2.heap.size := Nat.le_trans hs hb2.size
      have f3 := R2.frozen
      have c3 := R2.cell
      have HR2 := Lib.hid R2
      clear hb2 R2 H44 c0
      gi_wp2
      refine ⟨KB.out.trans (KeepsOthers.setCell _ _ _), rfl, ⟨x, by simp, HEQ.out⟩, HR2.out.set _, HB2.out.setCell (p := ⟨w.heap.size + 1, 0, none⟩) (by simp) _, ?_⟩
      exact Nat.le_trans hs2 (grownBy_setCell' _ (w.heap.size + 1) _).size
    · have hd : decide (p.take x = q) = false := decide_eq_false heq
      rw [hd] at H44
      have HEQ := Lib.hid heq
      clear heq hd
      gi_wp2_with fail
      refine ⟨trivial, ?_⟩
      refine (CallsIn.inRound l (callsIn_wide.2 H44.out)).mono ?_
      rintro e W2 ⟨rfl, hb2⟩
      have KB := Lib.hid (keeps_below hb2)
      have R2 := Lib.hid (HBR.out.kept (grown_of_below hb2) (by simp))
      have Q2 := Lib.hid (HBQ.out.kept (grown_of_below hb2) (by simp))
      have HB2 : Hid (Below w.heap.size w W2) := HB.out.trans (hb2.mono HB.out.size)
      have hs2 : w.heap.size + 3 ≤ W2.heap.size := Nat.le_trans hs hb2.size
      have HK : Hid (KeepB (w.heap.size + 2) W W2) := keepB_below hb2 (by omega)
      clear hb2 H44 c0
      gi_wp2
      refine ⟨KB.out, HK.out, ?_, Q2.out, R2.out, HB2.out, hs2⟩
      intro k hk
      rcases List.mem_append.1 hk with h | h
      · exact HNO.out k h
      · simp at h; subst h; exact HEQ.out
  case done =>
    rintro D ys W hD rfl ⟨hno, _, h1, hB, _⟩ hK
    have HD : Hid (decide (BelowP p q) = false) := decide_eq_false fun h => by
      obtain ⟨k, hk, e⟩ := belowP_iff.1 h
      exact hno k (by simpa using hk) e
    have c3 := h1.cell
    have f3 := h1.frozen
    have HB := Lib.hid hB
    clear hno hB
    gi_wp2
    have hK' := (KeepsOthers.setCell W ⟨w.heap.size + 1, 0, none⟩ (.bool false)).same D _ hK rfl
    refine ⟨by simp, .inl ⟨_, _, rfl, run_takeDeferred hK', ?_⟩⟩
    have x1 : Boxed (W.setCell ⟨w.heap.size + 1, 0, none⟩ (.bool false)) (w.heap.size + 1) 4 (.bool false) := h1.set _
    have y1 := cell_kept x1.cell (grownBy_putObj' _ D (.deferred none)) (fun r e => by cases e; exact ⟨_, hK', rfl⟩)
    refine ⟨.bool false, ?_, by rw [HD.out] <;> rfl, (HB.out.setCell (p := ⟨w.heap.size + 1, 0, none⟩) (by simp) (.bool false)).trans (belowK_b (w := w) (Nat.le_refl _) _ D _ (.deferred none) (by have := HZ.out; omega) hK' rfl rfl)⟩
    simp [results, Tryd.f23, go_sem, y1]
  case stop =>
    rintro D c pre W hD hpre ⟨rfl, ⟨k, hk, he⟩, h1, hB, _⟩ hK
    have HD : Hid (decide (BelowP p q) = true) := decide_eq_true (belowP_iff.2 ⟨k, by simpa using hpre.subset hk, he⟩)
    have c3 := h1.cell
    have HB := Lib.hid hB
    clear hk he hB hpre
    gi_wp2
    refine ⟨by simp, .inl ⟨_, _, rfl, run_takeDeferred hK, ?_⟩⟩
    have y1 := cell_kept c3 (grownBy_putObj' _ D (.deferred none)) (fun r e => by cases e; exact ⟨_, hK, rfl⟩)
    refine ⟨.bool true, ?_, by rw [HD.out] <;> rfl, HB.out.trans (belowK_b (w := w) (Nat.le_refl _) W D _ (.deferred none) (by have := HZ.out; omega) hK rfl rfl)⟩
    simp [results, Tryd.f23, go_sem, y1]
end Go.Proofs.YtoegmajkfaokdaaDoor
