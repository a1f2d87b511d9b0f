/- path.Parse. -/
import Derived.Test.YtoegmajkfaokdaaDoorTx
import Derived.Test.YtoegmajkfaokdaaDoorWa
import Derived.Maps.AppendAt
import Derived.Laws.OwnMore
namespace Go.Proofs.YtoegmajkfaokdaaDoor
open Go.RowKit Go.Shelf

attribute [local go_sem] Oper.semAt_some

/-- append(p, n), p a row of numbers of the call's own, in a round. -/
theorem wpListIn_append_z {F : Fence} {n : Nat} {w : World} {ops : Array Oper} {rest : List Oper} {o : Oper} {a : Act} {Q : Exit → Act → World → Prop} (hgd : o.guard = none) (s x : Operand)
    (ho : o.op = .call { callee := .builtin .append, args := #[s, x], argTypes := #[22, 22] }) (base : Nat) (v : Value) (us : List Int) (hs : a.eval s = v)
    (hown : ZRow w base v us) (ad : Addr) (u : Int) (hxe : a.eval x = .slice (some ad) 1 1) (hc : ∀ j y, [Value.int .i64 u][j]? = some y → w.cell? (ad.add j) = some y)
    (hn : us.length + 1 ≤ 1000000) (hbase : base ≤ w.heap.size)
    (h : ∀ v' w', ZRow w' base v' (us ++ [u]) → w.grownBy w' v.ownBlock → wpListIn F n Tryd.prog ops Q rest (a.put o.dst v') w') : wpListIn F n Tryd.prog ops Q (o :: rest) a w := by
  obtain ⟨i0, hi, hz0, hz1, hz2⟩ := info_parts Tryd.info3
  refine wpListIn_append_own w hgd s x 22 ho base 3 i0 _ 1 8 Tryd.underlying22 hi hz0 hz1 hz2 rfl (by decide) v us.length _ hs hown ad 1 1 [.int .i64 u] hxe rfl hc (by simp [Value.oneCell']) (by unfold maxLen; omega) (by omega) hbase ?_
  intro v' w' h1 h2 _
  exact h v' w' (by unfold ZRow zCellsOf; rw [List.map_append, List.length_append]; exact h1) h2

/-- The two results' variables and the path's, from block M on; the path's numbers lie from M + 6 on. -/
def PathI (w : World) (us : List Int) (W : World) : Prop :=
  (∃ v, Boxed W (w.heap.size + 2) 22 v ∧ ZRow W (w.heap.size + 6) v us) ∧ Boxed W w.heap.size 22 (.slice none 0 0) ∧ Boxed W (w.heap.size + 1) 4 (.bool false) ∧ Below w.heap.size w W ∧ w.heap.size + 6 ≤ W.heap.size
/-- The two results' variables alone. -/
def PathX (w W : World) : Prop := Boxed W w.heap.size 22 (.slice none 0 0) ∧ Boxed W (w.heap.size + 1) 4 (.bool false) ∧ Below w.heap.size w W ∧ w.heap.size + 6 ≤ W.heap.size

def Mild (M : Nat) (A : World) (row : Option Nat) : Prop := ∀ r, row = some r → (M + 3 ≤ r ∧ r < M + 6) ∨ (M + 6 ≤ r ∧ ∃ o : Obj, A.heap[r]? = some o ∧ o.isCells = false)
theorem boxed_mild {A B : World} {M k : Nat} {row : Option Nat} {t : TypeId} {v : Value} (h : Boxed A k t v) (hk : k < M + 3) (hg : A.grownBy B row) (hr : Mild M A row) : Boxed B k t v :=
  h.kept hg fun e => by rcases hr k e.symm with h | h <;> omega
theorem PathX.mild {w A B : World} {row : Option Nat} (h : PathX w A) (hg : A.grownBy B row) (hr : Mild w.heap.size A row) : PathX w B :=
  ⟨boxed_mild h.1 (by omega) hg hr, boxed_mild h.2.1 (by omega) hg hr, h.2.2.1.grown hg h.2.2.1.size (fun k e => by rcases hr k e with h | h <;> omega), Nat.le_trans h.2.2.2 hg.size⟩
theorem PathI.mild {w A B : World} {us : List Int} {row : Option Nat} (h : PathI w us A) (hg : A.grownBy B row) (hr : Mild w.heap.size A row)  : PathI w us B := by
  obtain ⟨⟨v, hv, hrow⟩, h2⟩ := h
  refine ⟨⟨v, boxed_mild hv (by omega) hg hr, ?_⟩, (PathX.mild h2 hg hr)⟩
  refine World.ownsRow.kept hrow hg ?_
  have hrow0 : A.ownsRow (w.heap.size + 6) 3 1 v us.length (zCellsOf us) := hrow
  rcases hrow0.2 with ⟨rfl, _⟩ | ⟨g, cap, cur, rfl, hb, hgb, _⟩
  · exact .inl rfl
  · refine .inr fun e => ?_
    rcases hr g (by simpa [Value.ownBlock] using e.symm) with h | ⟨_, o, ho, hc⟩
    · omega
    · rw [hgb] at ho; cases ho; cases hc

/-- The path that a text is, and true; else nothing and false. -/
def RetParse (w : World) (t : List UInt8) (e : Ending) (w' : World) : Prop :=
  Below w.heap.size w w' ∧ ((∃ zs v, IsPath t zs ∧ e = .returned (.tuple #[v, .bool true]) ∧ ZRow w' w.heap.size v zs) ∨
    ((∀ zs, ¬ IsPath t zs) ∧ e = .returned (.tuple #[.slice none 0 0, .bool false])))

/-- Between two rounds; and where a round has said no. -/
def PI (w : World) (pre : List (List UInt8)) (W : World) : Prop := ∃ zs, Each atoiOf pre zs ∧ zs.length ≤ 6 ∧ WideZ zs ∧ PathI w zs W
def PX (w : World) (c : Code) (pre : List (List UInt8)) (W : World) : Prop := c = .ret ∧ (∃ pr x, pre = pr ++ [x] ∧ (atoiOf x = none ∨ pr.length = 6)) ∧ PathX w W
theorem PI.own {w : World} {n : Nat} (hn : n = w.heap.size + 6) : Abides n (PI w) := by
  subst hn
  refine ⟨fun s W o ⟨us, h1, h2, h4, h3⟩ => ⟨us, h1, h2, h4, h3.mild (World.grownBy_alloc W o none) (fun r e => by cases e)⟩, fun s W l o o' ⟨us, h1, h2, h4, h3⟩ hl ho hc => ⟨us, h1, h2, h4, h3.mild (grownBy_putObj' W l o') (fun r e => by cases e; exact .inr ⟨hl, o, ho, hc⟩)⟩⟩
theorem PX.own {w : World} {n : Nat} (hn : n = w.heap.size + 6) (c : Code) : Abides n (PX w c) := by
  subst hn
  refine ⟨fun s W o ⟨h1, h2, h3⟩ => ⟨h1, h2, h3.mild (World.grownBy_alloc W o none) (fun r e => by cases e)⟩, fun s W l o o' ⟨h1, h2, h3⟩ hl ho hc => ⟨h1, h2, h3.mild (grownBy_putObj' W l o') (fun r e => by cases e; exact .inr ⟨hl, o, ho, hc⟩)⟩⟩
theorem PI.steps {w : World} (pre : List (List UInt8)) (A B : World) (h : PI w pre A) (hG : Steps (w.heap.size + 3) A B) : PI w pre B := by
  obtain ⟨us, h1, h2, h4, h3⟩ := h
  exact ⟨us, h1, h2, h4, h3.mild hG.1 (fun r e => .inl (by cases e; omega))⟩
theorem PX.steps {w : World} (c : Code) (pre : List (List UInt8)) (A B : World) (h : PX w c pre A) (hG : Steps (w.heap.size + 3) A B) : PX w c pre B :=
  ⟨h.1, h.2.1, h.2.2.mild hG.1 (fun r e => .inl (by cases e; omega))⟩

theorem PathX.stored {w W : World} (h : PathX w W) : PathX w ((W.setCell ⟨w.heap.size, 0, none⟩ (.slice none 0 0)).setCell ⟨w.heap.size + 1, 0, none⟩ (.bool false)) := by
  have h1 := h.2.1.other (B' := w.heap.size) (by omega) (.slice none 0 0)
  refine ⟨(h.1.set _).other (by omega) _, h1.set _, (h.2.2.1.setCell (p := ⟨w.heap.size, 0, none⟩) (Nat.le_refl _) _).setCell (p := ⟨w.heap.size + 1, 0, none⟩) (by simp) _, ?_⟩
  exact Nat.le_trans h.2.2.2 (Nat.le_trans (grownBy_setCell' W w.heap.size _).size (grownBy_setCell' _ (w.heap.size + 1) _).size)
theorem trio_below {W W' : World} {N : Nat} (h : Below W.heap.size W W') : Trio N W W' := fun k _ _ hk => h.block k hk

theorem path_appended {w W w1 : World} {us : List Int} {u : Int} {v v' : Value} {tmp : Obj} (hv : Boxed W (w.heap.size + 2) 22 v) (hrow : ZRow W (w.heap.size + 6) v us) (hX : PathX w W)
    (hown : ZRow w1 (w.heap.size + 6) v' (us ++ [u])) (hgrow : (W.alloc tmp).grownBy w1 v.ownBlock) :
    Boxed w1 (w.heap.size + 2) 22 v ∧ PathI w (us ++ [u]) (w1.setCell ⟨w.heap.size + 2, 0, none⟩ v') ∧ KeepsOthers W (w1.setCell ⟨w.heap.size + 2, 0, none⟩ v') ∧ Trio (w.heap.size + 3) W (w1.setCell ⟨w.heap.size + 2, 0, none⟩ v') := by
  have hne : ∀ k, k < w.heap.size + 6 → some k ≠ v.ownBlock := fun k hk e => by
    have := (World.ownsRow.lt hrow k e.symm).1
    omega
  have hne' : ∀ k, k < w.heap.size + 6 → some k ≠ v'.ownBlock := fun k hk e => by
    have := (World.ownsRow.lt hown k e.symm).1
    omega
  have v1 := (hv.alloc tmp).kept hgrow (hne _ (by omega))
  have x0 := (hX.1.alloc tmp).kept hgrow (hne _ (by omega))
  have x1 := (hX.2.1.alloc tmp).kept hgrow (hne _ (by omega))
  refine ⟨v1, ⟨⟨v', v1.set v', World.ownsRow.kept hown (grownBy_setCell' w1 _ v') (.inr fun e => hne' _ (by omega) e.symm)⟩, x0.other (by omega) _, x1.other (by omega) _, ?_, ?_⟩, ?_, ?_⟩
  · refine ((hX.2.2.1.alloc hX.2.2.1.size tmp).grown hgrow (by have := hX.2.2.1.size; simp; omega) fun j e => ?_).setCell (p := ⟨w.heap.size + 2, 0, none⟩) (by simp) v'
    have := (World.ownsRow.lt hrow j e).1
    omega
  · have h1 := hgrow.size
    have h2 := (grownBy_setCell' w1 (w.heap.size + 2) v').size
    rw [World.size_alloc] at h1
    have := hX.2.2.2
    omega
  · refine ((KeepsOthers.alloc W tmp).trans (KeepsOthers.of_grownBy hgrow fun j o ej hj => ?_)).trans (KeepsOthers.setCell _ _ _)
    have hr : (W.alloc tmp).ownsRow (w.heap.size + 6) 3 1 v us.length (zCellsOf us) := World.ownsRow.alloc hrow tmp
    rcases hr.2 with ⟨rfl, _⟩ | ⟨g, cap, cur, rfl, _, hgb, _⟩
    · simp [Value.ownBlock] at ej
    · obtain rfl : g = j := by simpa [Value.ownBlock] using ej
      rw [hgb] at hj; cases hj; rfl
  · intro k h1 h2 h3
    refine ((grownBy_setCell' w1 (w.heap.size + 2) v').block k ?_ (by intro e; injection e with e; omega)).trans ((hgrow.block k (by simp; omega) (hne k (by omega))).trans ((World.grownBy_alloc W tmp none).block k h3 (by simp)))
    exact Nat.lt_of_lt_of_le (by simp; omega) hgrow.size

set_option maxRecDepth 100000 in
set_option maxHeartbeats 4000000 in
theorem parse_any {w : World} {t : List UInt8} (h : Env w) (hn : t.length ≤ 140737488351232) : Calls Tryd.prog 9 #[.string (str t)] w (RetParse w t) := by
  by_cases ht : t = []
  · subst ht
    have hq : (str []).toList.isEmpty = true := by rw [ByteArray.toList_eq, str_list]; rfl
    obtain ⟨s, hs⟩ : ∃ s, s = str [] := ⟨_, rfl⟩
    rw [← hs] at hq ⊢
    clear hs
    go_enter Tryd.func9, Tryd.ntmps9
    go_wp2_with fail
    refine bodyPost_ret (v := .tuple #[.slice none 0 0, .bool true]) ?_ rfl ⟨((Below.refl _ w).alloc (Nat.le_refl _) _).alloc (by simp) _, .inl ⟨[], _, isPath_nil, rfl, World.ownsRow_nil _ _ _ _⟩⟩
    simp [results, Tryd.f9, go_sem]
  · have hq : (str t).toList.isEmpty = false := by rw [ByteArray.toList_eq, str_list]; simpa using ht
    have HE := Lib.hid h
    have HT := Lib.hid ht
    obtain ⟨W0, hW0⟩ : ∃ W0, W0 = ((((((w.alloc (.cells #[.slice none 0 0] 22)).alloc (.cells #[.bool false] 4)).alloc (.cells #[.slice none 0 0] 22)).alloc (.cells #[.string (str t)] 9)).alloc (.cells #[.string ⟨#[46]⟩] 9)).alloc (.cells #[.int .i64 0] 3)) := ⟨_, rfl⟩
    have hsz : W0.heap.size = w.heap.size + 6 := by rw [hW0]; simp
    have b0 : Boxed W0 w.heap.size 22 (.slice none 0 0) := by rw [hW0]; exact ((((((Boxed.new w 22 _).alloc _).alloc _).alloc _).alloc _).alloc _)
    have b1 : Boxed W0 (w.heap.size + 1) 4 (.bool false) := by
      rw [hW0]
      have := Boxed.new (w.alloc (.cells #[.slice none 0 0] 22)) 4 (.bool false)
      rw [World.size_alloc] at this
      exact ((((this.alloc _).alloc _).alloc _).alloc _)
    have b2 : Boxed W0 (w.heap.size + 2) 22 (.slice none 0 0) := by
      rw [hW0]
      have := Boxed.new ((w.alloc (.cells #[.slice none 0 0] 22)).alloc (.cells #[.bool false] 4)) 22 (.slice none 0 0)
      rw [World.size_alloc, World.size_alloc] at this
      exact (((this.alloc _).alloc _).alloc _)
    have b3 : Vars W0 (w.heap.size + 3) t := by
      rw [hW0]
      have h3 := Boxed.new (((w.alloc (.cells #[.slice none 0 0] 22)).alloc (.cells #[.bool false] 4)).alloc (.cells #[.slice none 0 0] 22)) 9 (.string (str t))
      have h4 := Boxed.new ((((w.alloc (.cells #[.slice none 0 0] 22)).alloc (.cells #[.bool false] 4)).alloc (.cells #[.slice none 0 0] 22)).alloc (.cells #[.string (str t)] 9)) 9 (.string ⟨#[46]⟩)
      have h5 := Boxed.new (((((w.alloc (.cells #[.slice none 0 0] 22)).alloc (.cells #[.bool false] 4)).alloc (.cells #[.slice none 0 0] 22)).alloc (.cells #[.string (str t)] 9)).alloc (.cells #[.string ⟨#[46]⟩] 9)) 3 (.int .i64 0)
      simp only [World.size_alloc] at h3 h4 h5
      exact ⟨(h3.alloc _).alloc _, h4.alloc _, h5⟩
    have bl : Below w.heap.size w W0 := by
      rw [hW0]
      exact ((((((Below.refl _ w).alloc (Nat.le_refl _) _).alloc (by simp) _).alloc (by simp; omega) _).alloc (by simp; omega) _).alloc (by simp; omega) _).alloc (by simp; omega) _
    have HI : Hid (PathI w [] W0) := ⟨⟨_, b2, World.ownsRow_nil _ _ _ _⟩, b0, b1, bl, Nat.le_of_eq hsz.symm⟩
    have HV := Lib.hid b3
    have HZ := Lib.hid hsz
    have HW := Lib.hid hW0
    obtain ⟨s, hs⟩ : ∃ s, s = str t := ⟨_, rfl⟩
    rw [← hs] at hq HW ⊢
    have HS0 := Lib.hid hs
    clear hs b0 b1 b2 b3 bl hsz hW0 h ht
    refine (callsIn_wide (n := 5)).1 ?_
    refine callsIn_of_wp_marks Tryd.func9 rfl trivial ?_ rfl
    simp only [Tryd.ntmps9, List.size_toArray, List.length_cons, List.length_nil, Nat.reduceAdd, Nat.reduceSub, Array.replicate_succ, Array.replicate_zero, List.push_toArray, List.append_toArray, List.nil_append, List.cons_append]
    gi_wp2_with (refine ⟨trivial, ?_⟩; gi_at_call 32; refine (callsIn_wide.2 (splitSeq_any s _)).mono ?_; rintro e w' ⟨rfl, rfl⟩)
    rw [← HW.out]
    refine wpIn_rangeFunc_steps rfl (by omega) (gf := 62) (lb := #[.pointer (some ⟨w.heap.size + 3 + 1, 0, none⟩), .pointer (some ⟨w.heap.size + 3, 0, none⟩), .pointer (some ⟨w.heap.size + 3 + 2, 0, none⟩)]) rfl trivial (enters_of Tryd.func62 (by kernel_rfl) rfl)
      (split_gives 4 (by omega) (w.heap.size + 3) t hn W0 HV.out) (fun h h' => h.trans h')
      (fun W o k _ _ h => (World.grownBy_alloc W o none).block k h (by simp)) (fun W l o' hl k _ h2 _ => World.putObj_heap_other (by have := HZ.out; omega))
      (fun A B k o hG hk ho hc => (hG.1.block k (Array.getElem?_eq_some_iff.1 ho).1 (fun e => by cases e; have := HZ.out; omega)).trans ho) (fun _ => rfl)
      (PI w) (PX w) (PI.own HZ.out) (PX.own HZ.out) PI.steps PX.steps
      ⟨[], rfl, by simp, fun _ h => by simp at h, HI.out⟩
      (fun x => { tmps := #[.string s, undef, .pointer (some ⟨w.heap.size, 0, none⟩), .pointer (some ⟨w.heap.size + 1, 0, none⟩), .pointer (some ⟨w.heap.size + 1 + 1, 0, none⟩), .string (str x), undef, undef, .string s, .bool false, .string s, .func (.func 62) #[] #[.pointer (some ⟨w.heap.size + 3 + 1, 0, none⟩), .pointer (some ⟨w.heap.size + 3, 0, none⟩), .pointer (some ⟨w.heap.size + 3 + 2, 0, none⟩)], .string (str x), undef, undef, undef, undef, undef, undef, undef, undef, undef, undef, undef, undef, undef, undef, undef, undef, undef, undef, undef, undef, undef, undef, undef, undef, undef, undef], defers := [] }) ?assign ?body ?done ?stop
    case assign =>
      intro l x W K hK
      gi_wp2
      exact hK
    case body =>
      rintro l pre x W ⟨us, heach, h6u, hwide, ⟨v, hv, hrow⟩, hX⟩ hx
      have H20 : Hid (Calls Tryd.prog 33 #[.string (str x)] W (RetAtoi W x)) := atoi_any (HE.out.below hX.2.2.1 HE.out.1) hx
      have HEA := Lib.hid heach
      have HWI := Lib.hid hwide
      have HV1 := Lib.hid hv
      have HR1 := Lib.hid hrow
      have HX1 : Hid (PathX w W) := hX
      clear heach hwide hv hrow hX HI HV HW HZ HE
      gi_wp2_with fail
      refine ⟨trivial, ?_⟩
      refine (CallsIn.inRound l (callsIn_wide.2 H20.out)).mono ?_
      rintro e W2 ⟨hb, (⟨u, hu, hu0, hu1, rfl, hd2⟩ | ⟨hno, n1, n2, rfl⟩)⟩
      · have hX2 := HX1.out.mild (grown_of_below hb) (fun r e => by cases e)
        have hv2 := HV1.out.kept (grown_of_below hb) (by simp)
        have hrow2 := HR1.out.below hb
        have KB := Lib.hid (keeps_below hb)
        have TB := Lib.hid (trio_below (N := w.heap.size + 3) hb)
        have HU := Lib.hid (atoiOf_ok hu)
        clear hb hu HV1 HR1 HX1 H20 hd2
        by_cases h6 : us.length = 6
        · have c2 := hX2.1.cell
          have f2 := hX2.1.frozen
          have c3 := hX2.2.1.cell
          have f3 := hX2.2.1.frozen
          have HX2 := Lib.hid hX2
          have HN : Hid (∃ pr y, pre ++ [x] = pr ++ [y] ∧ (atoiOf y = none ∨ pr.length = 6)) := ⟨pre, x, rfl, .inr (by rw [HEA.out.length]; exact h6)⟩
          obtain ⟨A, c, rfl⟩ := hrow2.slice
          have c4 : W2.cell? ⟨w.heap.size + 1 + 1, 0, none⟩ = some (.slice A us.length c) := hv2.cell
          clear hX2 hv2 hrow2
          gi_wp2
          exact ⟨(KB.out.trans (KeepsOthers.setCell _ _ _)).trans (KeepsOthers.setCell _ _ _), rfl, HN.out, HX2.out.stored⟩
        · have hle : us.length < 6 := by omega
          have HX2 := Lib.hid hX2
          have HV2 := Lib.hid hv2
          have HR2 := Lib.hid hrow2
          obtain ⟨A, c, rfl⟩ := hrow2.slice
          have c4 : W2.cell? ⟨w.heap.size + 1 + 1, 0, none⟩ = some (.slice A us.length c) := hv2.cell
          have h6' : ((us.length : Int) == 6) = false := by simp; omega
          have hsz2 := hX2.2.2.2
          clear hX2 hv2 hrow2 h6
          gi_wp2_with (gi_at_builtin; refine wpListIn_append_z rfl _ _ rfl (w.heap.size + 6) _ us rfl (World.ownsRow.alloc HR2.out _) ⟨W2.heap.size, 0, none⟩ u rfl (cell_one_new _ _ _) (by omega) (by simp; omega) ?_)
          intro v' w1 hown2 hgrow
          obtain ⟨A', c', rfl⟩ := hown2.slice
          obtain ⟨p1, p2, p3, p4⟩ := path_appended HV2.out HR2.out HX2.out hown2 hgrow
          rw [show (us ++ [u]).length = us.length + 1 by simp] at p2 p3 p4 ⊢
          have d4 : w1.cell? ⟨w.heap.size + 1 + 1, 0, none⟩ = some (.slice A us.length c) := p1.cell
          have e4 : w1.frozen? ⟨w.heap.size + 1 + 1, 0, none⟩ = false := p1.frozen
          have P2 := Lib.hid p2
          have P3 := Lib.hid p3
          have P4 := Lib.hid p4
          clear p1 p2 p3 p4 hown2 hgrow c4
          gi_wp2
          refine ⟨KB.out.trans P3.out, TB.out.trans P4.out, us ++ [u], HEA.out.snoc HU.out, by simp; omega, ?_, P2.out⟩
          intro y hy
          rcases List.mem_append.1 hy with h | h
          · exact HWI.out y h
          · simp at h; subst h; exact ⟨hu0, hu1⟩
      · have hX2 := HX1.out.mild (grown_of_below hb) (fun r e => by cases e)
        have KB := Lib.hid (keeps_below hb)
        have HN : Hid (∃ pr y, pre ++ [x] = pr ++ [y] ∧ (atoiOf y = none ∨ pr.length = 6)) := ⟨pre, x, rfl, .inl (atoiOf_no hno)⟩
        have c2 := hX2.1.cell
        have f2 := hX2.1.frozen
        have c3 := hX2.2.1.cell
        have f3 := hX2.2.1.frozen
        have HX2 := Lib.hid hX2
        clear hb hno HV1 HR1 HX1 H20 hX2
        gi_wp2
        exact ⟨(KB.out.trans (KeepsOthers.setCell _ _ _)).trans (KeepsOthers.setCell _ _ _), rfl, HN.out, HX2.out.stored⟩
    case done =>
      rintro D ys W hD rfl ⟨us, heach, h6u, hwide, ⟨v, hv, hrow⟩, h0, h1, hB, hs6⟩ hK
      obtain ⟨A, c, hvs, hz⟩ := hrow.zs
      subst hvs
      have c4 : W.cell? ⟨w.heap.size + 1 + 1, 0, none⟩ = some (.slice A us.length c) := hv.cell
      have H11 := Lib.hid (right_any (c := c) hz)
      have HEW : Env W := HE.out.below hB HE.out.1
      have H13 := Lib.hid (text_any (c := c) HEW hz hwide (by omega))
      have HR := Lib.hid hrow
      have HB := Lib.hid hB
      have HEA := Lib.hid heach
      have HV4 := Lib.hid hv
      have H0 := Lib.hid h0
      have H1 := Lib.hid h1
      have HK := Lib.hid hK
      have HD := Lib.hid hD
      have HS := Lib.hid HS0.out
      clear heach hrow hB hz HEW hwide hv h0 h1 hK hD
      by_cases hok : PathOk us
      · have hd : decide (PathOk us) = true := decide_eq_true hok
        rw [hd] at H11
        clear hd
        gi_wp2_with (first | (refine ⟨trivial, ?_⟩; gi_at_call 11; refine (callsIn_wide.2 H11.out).mono ?_; rintro e w' ⟨rfl, rfl⟩))
        refine ⟨trivial, ?_⟩
        refine (callsIn_wide.2 H13.out).mono ?_
        rintro e W2 ⟨rfl, hb2⟩
        have B0 := H0.out.kept (grown_of_below hb2) (by simp)
        have B1 := H1.out.kept (grown_of_below hb2) (by simp)
        have B4 := HV4.out.kept (grown_of_below hb2) (by simp)
        have HB2 : Hid (Below w.heap.size w W2) := HB.out.trans (hb2.mono HB.out.size)
        have HR2 := Lib.hid (HR.out.below hb2)
        have hK2 := (keeps_below hb2).same D _ HK.out rfl
        have HK2 := Lib.hid hK2
        have c2 := B0.cell
        have f2 := B0.frozen
        have c3 := B1.cell
        have f3 := B1.frozen
        have d4 : W2.cell? ⟨w.heap.size + 1 + 1, 0, none⟩ = some (.slice A us.length c) := B4.cell
        have HB0 := Lib.hid B0
        have HB1 := Lib.hid B1
        clear B0 B1 B4 hb2 hK2 c4 H11 H13
        by_cases htx : zText us = t
        · have hq : ((str (zText us)).toList == s.toList) = true := by rw [HS.out]; exact str_same htx
          have HY : Hid (IsPath t us) := ⟨hok, htx.symm⟩
          clear htx hok
          gi_wp2
          have hK' := ((KeepsOthers.setCell W2 ⟨w.heap.size, 0, none⟩ (.slice A us.length c)).trans (KeepsOthers.setCell _ ⟨w.heap.size + 1, 0, none⟩ (.bool true))).same D _ HK2.out rfl
          refine ⟨by simp, .inl ⟨_, _, rfl, run_takeDeferred hK', ?_⟩⟩
          have x0 : Boxed ((W2.setCell ⟨w.heap.size, 0, none⟩ (.slice A us.length c)).setCell ⟨w.heap.size + 1, 0, none⟩ (.bool true)) w.heap.size 22 (.slice A us.length c) := (HB0.out.set _).other (by omega) _
          have x1 : Boxed ((W2.setCell ⟨w.heap.size, 0, none⟩ (.slice A us.length c)).setCell ⟨w.heap.size + 1, 0, none⟩ (.bool true)) (w.heap.size + 1) 4 (.bool true) := (HB1.out.other (by omega) _).set _
          have y0 := cell_kept x0.cell (grownBy_putObj' _ D (.deferred none)) (fun r e => by cases e; exact ⟨_, hK', rfl⟩)
          have y1 := cell_kept x1.cell (grownBy_putObj' _ D (.deferred none)) (fun r e => by cases e; exact ⟨_, hK', rfl⟩)
          have hne : ∀ k, k < w.heap.size + 6 → (Value.slice A us.length c).ownBlock ≠ some k := fun k hk e => by
            have := (World.ownsRow.lt HR2.out k e).1
            omega
          have r1 := World.ownsRow.kept (World.ownsRow.kept HR2.out (grownBy_setCell' W2 w.heap.size (.slice A us.length c)) (.inr (hne _ (by omega)))) (grownBy_setCell' _ (w.heap.size + 1) (.bool true)) (.inr (hne _ (by omega)))
          have r2 : ZRow _ (w.heap.size + 6) _ us := ownsRow_putObj r1 (.deferred none) hK' rfl
          have bl := ((HB2.out.setCell (p := ⟨w.heap.size, 0, none⟩) (Nat.le_refl _) (.slice A us.length c)).setCell (p := ⟨w.heap.size + 1, 0, none⟩) (by simp) (.bool true)).trans (belowK_b (w := w) (Nat.le_refl _) _ D _ (.deferred none) (by have := HZ.out; have := HD.out; omega) hK' rfl rfl)
          refine ⟨.tuple #[.slice A us.length c, .bool true], ?_, bl, .inl ⟨us, _, HY.out, rfl, ZRow.more r2 (by omega)⟩⟩
          simp [results, Tryd.f9, go_sem, y0, y1]
        · have hq : ((str (zText us)).toList == s.toList) = false := by rw [HS.out]; exact str_differs htx
          have HN : Hid (∀ zs, ¬ IsPath t zs) := parse_no atoiOf_right HT.out HEA.out (fun h => htx h.2)
          clear htx hok
          gi_wp2
          have hK' := ((KeepsOthers.setCell W2 ⟨w.heap.size, 0, none⟩ (.slice none 0 0)).trans (KeepsOthers.setCell _ ⟨w.heap.size + 1, 0, none⟩ (.bool false))).same D _ HK2.out rfl
          refine ⟨by simp, .inl ⟨_, _, rfl, run_takeDeferred hK', ?_⟩⟩
          have x0 : Boxed ((W2.setCell ⟨w.heap.size, 0, none⟩ (.slice none 0 0)).setCell ⟨w.heap.size + 1, 0, none⟩ (.bool false)) w.heap.size 22 (.slice none 0 0) := (HB0.out.set _).other (by omega) _
          have x1 : Boxed ((W2.setCell ⟨w.heap.size, 0, none⟩ (.slice none 0 0)).setCell ⟨w.heap.size + 1, 0, none⟩ (.bool false)) (w.heap.size + 1) 4 (.bool false) := (HB1.out.other (by omega) _).set _
          have y0 := cell_kept x0.cell (grownBy_putObj' _ D (.deferred none)) (fun r e => by cases e; exact ⟨_, hK', rfl⟩)
          have y1 := cell_kept x1.cell (grownBy_putObj' _ D (.deferred none)) (fun r e => by cases e; exact ⟨_, hK', rfl⟩)
          have bl := ((HB2.out.setCell (p := ⟨w.heap.size, 0, none⟩) (Nat.le_refl _) (.slice none 0 0)).setCell (p := ⟨w.heap.size + 1, 0, none⟩) (by simp) (.bool false)).trans (belowK_b (w := w) (Nat.le_refl _) _ D _ (.deferred none) (by have := HZ.out; have := HD.out; omega) hK' rfl rfl)
          refine ⟨.tuple #[.slice none 0 0, .bool false], ?_, bl, .inr ⟨HN.out, rfl⟩⟩
          simp [results, Tryd.f9, go_sem, y0, y1]
      · have hd : decide (PathOk us) = false := decide_eq_false hok
        rw [hd] at H11
        have HN : Hid (∀ zs, ¬ IsPath t zs) := parse_no atoiOf_right HT.out HEA.out (fun h => hok h.1)
        have c2 := H0.out.cell
        have f2 := H0.out.frozen
        have c3 := H1.out.cell
        have f3 := H1.out.frozen
        clear hd hok H13
        gi_wp2_with (first | (refine ⟨trivial, ?_⟩; gi_at_call 11; refine (callsIn_wide.2 H11.out).mono ?_; rintro e w' ⟨rfl, rfl⟩))
        refine ⟨trivial, ?_⟩
        gi_wp2
        have hK' := ((KeepsOthers.setCell W ⟨w.heap.size, 0, none⟩ (.slice none 0 0)).trans (KeepsOthers.setCell _ ⟨w.heap.size + 1, 0, none⟩ (.bool false))).same D _ HK.out rfl
        refine ⟨by simp, .inl ⟨_, _, rfl, run_takeDeferred hK', ?_⟩⟩
        have x0 : Boxed ((W.setCell ⟨w.heap.size, 0, none⟩ (.slice none 0 0)).setCell ⟨w.heap.size + 1, 0, none⟩ (.bool false)) w.heap.size 22 (.slice none 0 0) := (H0.out.set _).other (by omega) _
        have x1 : Boxed ((W.setCell ⟨w.heap.size, 0, none⟩ (.slice none 0 0)).setCell ⟨w.heap.size + 1, 0, none⟩ (.bool false)) (w.heap.size + 1) 4 (.bool false) := (H1.out.other (by omega) _).set _
        have y0 := cell_kept x0.cell (grownBy_putObj' _ D (.deferred none)) (fun r e => by cases e; exact ⟨_, hK', rfl⟩)
        have y1 := cell_kept x1.cell (grownBy_putObj' _ D (.deferred none)) (fun r e => by cases e; exact ⟨_, hK', rfl⟩)
        have bl := ((HB.out.setCell (p := ⟨w.heap.size, 0, none⟩) (Nat.le_refl _) (.slice none 0 0)).setCell (p := ⟨w.heap.size + 1, 0, none⟩) (by simp) (.bool false)).trans (belowK_b (w := w) (Nat.le_refl _) _ D _ (.deferred none) (by have := HZ.out; have := HD.out; omega) hK' rfl rfl)
        refine ⟨.tuple #[.slice none 0 0, .bool false], ?_, bl, .inr ⟨HN.out, rfl⟩⟩
        simp [results, Tryd.f9, go_sem, y0, y1]
    case stop =>
      rintro D c pre W hD hpre ⟨rfl, ⟨pr, x, hpx, hbad⟩, h0, h1, hB, _⟩ hK
      have c2 := h0.cell
      have c3 := h1.cell
      have HN : Hid (∀ zs, ¬ IsPath t zs) := by
        subst hpx
        exact parse_stop atoiOf_right HT.out hpre hbad
      have HB := Lib.hid hB
      clear hbad hpre hB hpx
      gi_wp2
      refine ⟨by simp, .inl ⟨_, _, rfl, run_takeDeferred hK, ?_⟩⟩
      have y0 := cell_kept c2 (grownBy_putObj' _ D (.deferred none)) (fun r e => by cases e; exact ⟨_, hK, rfl⟩)
      have y1 := cell_kept c3 (grownBy_putObj' _ D (.deferred none)) (fun r e => by cases e; exact ⟨_, hK, rfl⟩)
      refine ⟨.tuple #[.slice none 0 0, .bool false], ?_, HB.out.trans (belowK_b (w := w) (Nat.le_refl _) W D _ (.deferred none) (by have := HZ.out; omega) hK rfl rfl), .inr ⟨HN.out, rfl⟩⟩
      simp [results, Tryd.f9, go_sem, y0, y1]
end Go.Proofs.YtoegmajkfaokdaaDoor
