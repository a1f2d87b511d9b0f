/- cats.parsePath. -/
import Derived.Test.YtkjenigpheppjaaDoorD
import Derived.Maps.AppendAt
import Derived.Laws.OwnMore
namespace Go.Proofs.YtkjenigpheppjaaDoor
open Go.RowKit Go.Shelf

attribute [local go_sem] Oper.semAt_some

/-- Numbers as cells. -/
def numCells (us : List Nat) : List Value := us.map fun u : Nat => Value.int .i64 (u : Int)
theorem numCells_length (us : List Nat) : (numCells us).length = us.length := by simp [numCells]
/-- A row of numbers of its own, from block B on. -/
def NumRow (w : World) (B : Nat) (v : Value) (us : List Nat) : Prop := w.ownsRow B 3 1 v us.length (numCells us)
theorem NumRow.mono {w : World} {B B' : Nat} {v : Value} {us : List Nat} (h : NumRow w B v us) (hB : B' ≤ B) : NumRow w B' v us := by
  obtain ⟨h1, h2⟩ := h
  refine ⟨h1, ?_⟩
  rcases h2 with h2 | ⟨g, cap, cur, e, hb, r⟩
  · exact .inl h2
  · exact .inr ⟨g, cap, cur, e, Nat.le_trans hB hb, r⟩
theorem grown_of_below {W W' : World} (h : Below W.heap.size W W') : W.grownBy W' none := ⟨h.os, h.tape, h.output, h.size, fun i hi _ => h.block i hi⟩
theorem NumRow.below {w w' : World} {B : Nat} {v : Value} {us : List Nat} (h : NumRow w B v us) (hb : Below w.heap.size w w') : NumRow w' B v us :=
  World.ownsRow.kept (row := Option.none) h (grown_of_below hb) (by cases v.ownBlock <;> simp)

theorem Tryd.info3 : (Tryd.prog.info? 3).map (fun i => (i.zero, i.size, i.bytes)) = some (some (.int .i64 0), 1, 8) := by kernel_rfl

/-- append(path, u), path a row of numbers of the call's own, in a round; the draws do not decrease. -/
theorem append_run {w : World} (base : Nat) (ty : TypeId) (v : Value) (us : List Nat) (hown : NumRow w base v us) (ad : Addr) (u : Nat) (hc : ∀ j y, [Value.int .i64 (u : Int)][j]? = some y → w.cell? (ad.add j) = some y)
    (hn : us.length + 1 ≤ 1000000) (hbase : base ≤ w.heap.size) :
    ∃ v' w', (Builtin.append_ #[22, 22] ty #[v, .slice (some ad) 1 1]).run Tryd.prog w = .ok v' w' ∧ NumRow w' base v' (us ++ [u]) ∧ w.grownBy w' v.ownBlock ∧ w.drawn ≤ w'.drawn := by
  obtain ⟨i0, hi, hz0, hz1, hz2⟩ := info_parts Tryd.info3
  obtain ⟨v', w', hr, h2, h3, _⟩ := run_append_own (P := Tryd.prog) w base 22 ty 3 i0 _ 1 8 Tryd.underlying22 hi hz0 hz1 hz2 rfl (by decide) v us.length _ hown ad 1 1 [.int .i64 (u : Int)] rfl hc (by simp [Value.oneCell']) (by unfold maxLen; omega) (by omega) hbase
  refine ⟨v', w', hr, by unfold NumRow numCells; rw [List.map_append, List.length_append]; exact h2, h3, ?_⟩
  have h0 : w.ownsRow base 3 1 v us.length (numCells us) := hown
  rcases h0.2 with ⟨rfl, he⟩ | ⟨g, cap, cur, rfl, hb, hh, hnc, hcm, hcs, htake⟩
  · have hx := run_append_nil (P := Tryd.prog) w 22 ty 3 i0 _ Tryd.underlying22 hi hz0 ad 1 1 [.int .i64 (u : Int)] (by rw [hz1]; rfl) hc (by omega) (by omega) (by omega)
    rw [hx] at hr
    injection hr with _ hr
    rw [← hr]
    exact Nat.le_add_right _ 1
  · by_cases hroom : us.length + 1 ≤ cap
    · have hx := run_append_room (P := Tryd.prog) w 22 ty 3 i0 Tryd.underlying22 hi g us.length cap cur hh ad 1 1 [.int .i64 (u : Int)] (by rw [hz1]; rfl) hc (by simp [Value.oneCell']) hroom (by rw [hz1, hcs]; simp; omega)
      rw [hx] at hr
      injection hr with _ hr
      rw [← hr]
      exact Nat.le_refl _
    · have hx := run_append_grow (P := Tryd.prog) w 22 ty 3 i0 _ Tryd.underlying22 hi hz0 ⟨g, 0, none⟩ us.length cap (numCells us) (by rw [hz1]; exact h0.1) (h0.cells (g := g) rfl) ad 1 1 [.int .i64 (u : Int)] (by rw [hz1]; rfl) hc (by omega) (by omega) (growslice_fits (by omega) (by rw [hz2]; omega))
      rw [hx] at hr
      injection hr with _ hr
      rw [← hr]
      exact Nat.le_add_right _ 1
theorem wpListIn_append_num {F : Fence} {n : Nat} {w : World} {ops : Array Oper} {rest : List Oper} {o : Oper} {a : Act} {Q : Exit → Act → World → Prop} (hgd : o.guard = none) (s x : Operand)
    (ho : o.op = .call { callee := .builtin .append, args := #[s, x], argTypes := #[22, 22] }) (base : Nat) (v : Value) (us : List Nat) (hs : a.eval s = v)
    (hown : NumRow w base v us) (ad : Addr) (u : Nat) (hxe : a.eval x = .slice (some ad) 1 1) (hc : ∀ j y, [Value.int .i64 (u : Int)][j]? = some y → w.cell? (ad.add j) = some y)
    (hn : us.length + 1 ≤ 1000000) (hbase : base ≤ w.heap.size)
    (h : ∀ v' w', NumRow w' base v' (us ++ [u]) → w.grownBy w' v.ownBlock → w.drawn ≤ w'.drawn → wpListIn F n Tryd.prog ops Q rest (a.put o.dst v') w') : wpListIn F n Tryd.prog ops Q (o :: rest) a w := by
  refine wpListIn_plain hgd fun K hK => ?_
  obtain ⟨v', w', hr, h1, h2, h3⟩ := append_run base o.type v us hown ad u hc hn hbase
  unfold Oper.wpIn
  refine ⟨?_, ?_⟩
  · simp [Oper.about, ho, resolve, Target.leads, Sem.run_pure]
  · rw [Oper.semAt_plain F _ _ (by rw [ho]; intro c hc'; cases hc')]
    simp [execOp, ho, resolve, invoke, builtin, hs, hxe, hr, Result.andThen]
    exact hK _ _ (h v' w' h1 h2 h3)


/-- The two results' variables and the path's, from block M on; the path's numbers lie from M + 6 on. -/
def PathI (w : World) (us : List Nat) (W : World) : Prop :=
  (∃ v, Boxed W (w.heap.size + 2) 22 v ∧ NumRow W (w.heap.size + 6) v us) ∧ w.drawn ≤ W.drawn ∧ Boxed W w.heap.size 22 (.slice none 0 0) ∧ Boxed W (w.heap.size + 1) 4 (.bool false) ∧ Below w.heap.size w W ∧ w.heap.size + 6 ≤ W.heap.size
/-- The two results' variables alone. -/
def PathX (w W : World) : Prop := Boxed W w.heap.size 22 (.slice none 0 0) ∧ Boxed W (w.heap.size + 1) 4 (.bool false) ∧ Below w.heap.size w W ∧ w.heap.size + 6 ≤ W.heap.size

def Mild (M : Nat) (A : World) (row : Option Nat) : Prop := ∀ r, row = some r → (M + 3 ≤ r ∧ r < M + 6) ∨ (M + 6 ≤ r ∧ ∃ o : Obj, A.heap[r]? = some o ∧ o.isCells = false)
theorem boxed_mild {A B : World} {M k : Nat} {row : Option Nat} {t : TypeId} {v : Value} (h : Boxed A k t v) (hk : k < M + 3) (hg : A.grownBy B row) (hr : Mild M A row) : Boxed B k t v :=
  h.kept hg fun e => by rcases hr k e.symm with h | h <;> omega
theorem PathX.mild {w A B : World} {row : Option Nat} (h : PathX w A) (hg : A.grownBy B row) (hr : Mild w.heap.size A row) : PathX w B :=
  ⟨boxed_mild h.1 (by omega) hg hr, boxed_mild h.2.1 (by omega) hg hr, h.2.2.1.grown hg h.2.2.1.size (fun k e => by rcases hr k e with h | h <;> omega), Nat.le_trans h.2.2.2 hg.size⟩
theorem PathI.mild {w A B : World} {us : List Nat} {row : Option Nat} (h : PathI w us A) (hg : A.grownBy B row) (hr : Mild w.heap.size A row) (hd : A.drawn ≤ B.drawn) : PathI w us B := by
  obtain ⟨⟨v, hv, hrow⟩, hd0, h2⟩ := h
  refine ⟨⟨v, boxed_mild hv (by omega) hg hr, ?_⟩, Nat.le_trans hd0 hd, (PathX.mild h2 hg hr)⟩
  refine World.ownsRow.kept hrow hg ?_
  have hrow0 : A.ownsRow (w.heap.size + 6) 3 1 v us.length (numCells us) := hrow
  rcases hrow0.2 with ⟨rfl, _⟩ | ⟨g, cap, cur, rfl, hb, hgb, _⟩
  · exact .inl rfl
  · refine .inr fun e => ?_
    rcases hr g (by simpa [Value.ownBlock] using e.symm) with h | ⟨_, o, ho, hc⟩
    · omega
    · rw [hgb] at ho; cases ho; cases hc

/-- The path that a text is, and true; else no path and false. -/
def RetPath (w : World) (t : List UInt8) (e : Ending) (w' : World) : Prop :=
  Below w.heap.size w w' ∧ ((∃ us v, FitsP us ∧ t = pathText us ∧ e = .returned (.tuple #[v, .bool true]) ∧ NumRow w' w.heap.size v us ∧ w.drawn ≤ w'.drawn) ∨
    ((∀ us, FitsP us → t ≠ pathText us) ∧ e = .returned (.tuple #[.slice none 0 0, .bool false])))

theorem prefix_snoc {pre : List (List UInt8)} {x : List UInt8} {us : List Nat} (h : pre ++ [x] <+: us.map Lib.decDigits) : (∃ u ∈ us, x = Lib.decDigits u) ∧ pre.length < us.length := by
  obtain ⟨r, hr⟩ := h
  have hx : x ∈ us.map Lib.decDigits := by rw [← hr]; simp
  obtain ⟨u, hu, rfl⟩ := List.mem_map.1 hx
  have := congrArg List.length hr
  simp at this
  exact ⟨⟨u, hu, rfl⟩, by omega⟩

/-- Between two rounds; and where a round has said no. -/
def PI (w : World) (pre : List (List UInt8)) (W : World) : Prop := ∃ us, pre = us.map Lib.decDigits ∧ FitsP us ∧ PathI w us W
def PX (w : World) (c : Code) (pre : List (List UInt8)) (W : World) : Prop := c = .ret ∧ (∀ us, FitsP us → ¬ pre <+: us.map Lib.decDigits) ∧ PathX w W
theorem PI.own {w : World} {n : Nat} (hn : n = w.heap.size + 6) : Abides n (PI w) := by
  subst hn
  refine ⟨fun s W o ⟨us, h1, h2, h3⟩ => ⟨us, h1, h2, h3.mild (World.grownBy_alloc W o none) (fun r e => by cases e) (Nat.le_refl _)⟩, fun s W l o o' ⟨us, h1, h2, h3⟩ hl ho hc => ⟨us, h1, h2, h3.mild (grownBy_putObj' W l o') (fun r e => by cases e; exact .inr ⟨hl, o, ho, hc⟩) (Nat.le_refl _)⟩⟩
theorem PX.own {w : World} {n : Nat} (hn : n = w.heap.size + 6) (c : Code) : Abides n (PX w c) := by
  subst hn
  refine ⟨fun s W o ⟨h1, h2, h3⟩ => ⟨h1, h2, h3.mild (World.grownBy_alloc W o none) (fun r e => by cases e)⟩, fun s W l o o' ⟨h1, h2, h3⟩ hl ho hc => ⟨h1, h2, h3.mild (grownBy_putObj' W l o') (fun r e => by cases e; exact .inr ⟨hl, o, ho, hc⟩)⟩⟩
theorem PI.steps {w : World} (pre : List (List UInt8)) (A B : World) (h : PI w pre A) (hG : Steps (w.heap.size + 3) A B) : PI w pre B := by
  obtain ⟨us, h1, h2, h3⟩ := h
  exact ⟨us, h1, h2, h3.mild hG.1 (fun r e => .inl (by cases e; omega)) hG.2⟩
theorem PX.steps {w : World} (c : Code) (pre : List (List UInt8)) (A B : World) (h : PX w c pre A) (hG : Steps (w.heap.size + 3) A B) : PX w c pre B :=
  ⟨h.1, h.2.1, h.2.2.mild hG.1 (fun r e => .inl (by cases e; omega))⟩

theorem NumRow.slice {w : World} {B : Nat} {v : Value} {us : List Nat} (h : NumRow w B v us) : ∃ A c, v = .slice A us.length c := by
  have h0 : w.ownsRow B 3 1 v us.length (numCells us) := h
  rcases h0.2 with ⟨rfl, he⟩ | ⟨g, cap, cur, rfl, _⟩
  · exact ⟨none, 0, by rw [he]⟩
  · exact ⟨_, cap, rfl⟩
theorem PathX.stored {w W : World} (h : PathX w W) : PathX w ((W.setCell ⟨w.heap.size, 0, none⟩ (.slice none 0 0)).setCell ⟨w.heap.size + 1, 0, none⟩ (.bool false)) := by
  have h1 := h.2.1.other (B' := w.heap.size) (by omega) (.slice none 0 0)
  refine ⟨(h.1.set _).other (by omega) _, h1.set _, (h.2.2.1.setCell (p := ⟨w.heap.size, 0, none⟩) (Nat.le_refl _) _).setCell (p := ⟨w.heap.size + 1, 0, none⟩) (by simp) _, ?_⟩
  exact Nat.le_trans h.2.2.2 (Nat.le_trans (grownBy_setCell' W w.heap.size _).size (grownBy_setCell' _ (w.heap.size + 1) _).size)
theorem keeps_below {W W' : World} (h : Below W.heap.size W W') : KeepsOthers W W' := KeepsOthers.of_grownBy (grown_of_below h) (fun _ _ e _ => by cases e)
theorem trio_below {W W' : World} {N : Nat} (h : Below W.heap.size W W') : Trio N W W' := fun k _ _ hk => h.block k hk

theorem path_appended {w W w1 : World} {us : List Nat} {u : Nat} {v v' : Value} {tmp : Obj} (hv : Boxed W (w.heap.size + 2) 22 v) (hrow : NumRow W (w.heap.size + 6) v us) (hX : PathX w W)
    (hown : NumRow w1 (w.heap.size + 6) v' (us ++ [u])) (hgrow : (W.alloc tmp).grownBy w1 v.ownBlock) (hd : w.drawn ≤ w1.drawn) :
    Boxed w1 (w.heap.size + 2) 22 v ∧ PathI w (us ++ [u]) (w1.setCell ⟨w.heap.size + 2, 0, none⟩ v') ∧ KeepsOthers W (w1.setCell ⟨w.heap.size + 2, 0, none⟩ v') ∧ Trio (w.heap.size + 3) W (w1.setCell ⟨w.heap.size + 2, 0, none⟩ v') := by
  have hne : ∀ k, k < w.heap.size + 6 → some k ≠ v.ownBlock := fun k hk e => by
    have := (World.ownsRow.lt hrow k e.symm).1
    omega
  have hne' : ∀ k, k < w.heap.size + 6 → some k ≠ v'.ownBlock := fun k hk e => by
    have := (World.ownsRow.lt hown k e.symm).1
    omega
  have v1 := (hv.alloc tmp).kept hgrow (hne _ (by omega))
  have x0 := (hX.1.alloc tmp).kept hgrow (hne _ (by omega))
  have x1 := (hX.2.1.alloc tmp).kept hgrow (hne _ (by omega))
  refine ⟨v1, ⟨⟨v', v1.set v', World.ownsRow.kept hown (grownBy_setCell' w1 _ v') (.inr fun e => hne' _ (by omega) e.symm)⟩, hd, x0.other (by omega) _, x1.other (by omega) _, ?_, ?_⟩, ?_, ?_⟩
  · refine ((hX.2.2.1.alloc hX.2.2.1.size tmp).grown hgrow (by have := hX.2.2.1.size; simp; omega) fun j e => ?_).setCell (p := ⟨w.heap.size + 2, 0, none⟩) (by simp) v'
    have := (World.ownsRow.lt hrow j e).1
    omega
  · have h1 := hgrow.size
    have h2 := (grownBy_setCell' w1 (w.heap.size + 2) v').size
    rw [World.size_alloc] at h1
    have := hX.2.2.2
    omega
  · refine ((KeepsOthers.alloc W tmp).trans (KeepsOthers.of_grownBy hgrow fun j o ej hj => ?_)).trans (KeepsOthers.setCell _ _ _)
    have hr : (W.alloc tmp).ownsRow (w.heap.size + 6) 3 1 v us.length (numCells us) := World.ownsRow.alloc hrow tmp
    rcases hr.2 with ⟨rfl, _⟩ | ⟨g, cap, cur, rfl, _, hgb, _⟩
    · simp [Value.ownBlock] at ej
    · obtain rfl : g = j := by simpa [Value.ownBlock] using ej
      rw [hgb] at hj; cases hj; rfl
  · intro k h1 h2 h3
    refine ((grownBy_setCell' w1 (w.heap.size + 2) v').block k ?_ (by intro e; injection e with e; omega)).trans ((hgrow.block k (by simp; omega) (hne k (by omega))).trans ((World.grownBy_alloc W tmp none).block k h3 (by simp)))
    exact Nat.lt_of_lt_of_le (by simp; omega) hgrow.size

set_option maxRecDepth 100000 in
set_option maxHeartbeats 4000000 in
theorem parsePath_any {w : World} {t : List UInt8} (h : Env w) (hn : t.length ≤ 140737488351232) : Calls Tryd.prog 19 #[.string (str t)] w (RetPath w t) := by
  by_cases ht : t = []
  · subst ht
    have hq : (str []).toList.isEmpty = true := by rw [ByteArray.toList_eq, str_list]; rfl
    obtain ⟨s, hs⟩ : ∃ s, s = str [] := ⟨_, rfl⟩
    rw [← hs] at hq ⊢
    clear hs
    go_enter Tryd.func19, Tryd.ntmps19
    go_wp2_with fail
    refine bodyPost_ret (v := .tuple #[.slice none 0 0, .bool true]) ?_ rfl ⟨((Below.refl _ w).alloc (Nat.le_refl _) _).alloc (by simp) _, .inl ⟨[], _, ⟨by simp, by simp⟩, rfl, rfl, World.ownsRow_nil _ _ _ _, Nat.le_refl _⟩⟩
    simp [results, Tryd.f19, go_sem]
  · have hq : (str t).toList.isEmpty = false := by rw [ByteArray.toList_eq, str_list]; simpa using ht
    have HE := Lib.hid h
    have HT := Lib.hid ht
    obtain ⟨W0, hW0⟩ : ∃ W0, W0 = ((((((w.alloc (.cells #[.slice none 0 0] 22)).alloc (.cells #[.bool false] 4)).alloc (.cells #[.slice none 0 0] 22)).alloc (.cells #[.string (str t)] 9)).alloc (.cells #[.string ⟨#[46]⟩] 9)).alloc (.cells #[.int .i64 0] 3)) := ⟨_, rfl⟩
    have hsz : W0.heap.size = w.heap.size + 6 := by rw [hW0]; simp
    have b0 : Boxed W0 w.heap.size 22 (.slice none 0 0) := by rw [hW0]; exact ((((((Boxed.new w 22 _).alloc _).alloc _).alloc _).alloc _).alloc _)
    have b1 : Boxed W0 (w.heap.size + 1) 4 (.bool false) := by
      rw [hW0]
      have := Boxed.new (w.alloc (.cells #[.slice none 0 0] 22)) 4 (.bool false)
      rw [World.size_alloc] at this
      exact ((((this.alloc _).alloc _).alloc _).alloc _)
    have b2 : Boxed W0 (w.heap.size + 2) 22 (.slice none 0 0) := by
      rw [hW0]
      have := Boxed.new ((w.alloc (.cells #[.slice none 0 0] 22)).alloc (.cells #[.bool false] 4)) 22 (.slice none 0 0)
      rw [World.size_alloc, World.size_alloc] at this
      exact (((this.alloc _).alloc _).alloc _)
    have b3 : Vars W0 (w.heap.size + 3) t := by
      rw [hW0]
      have h3 := Boxed.new (((w.alloc (.cells #[.slice none 0 0] 22)).alloc (.cells #[.bool false] 4)).alloc (.cells #[.slice none 0 0] 22)) 9 (.string (str t))
      have h4 := Boxed.new ((((w.alloc (.cells #[.slice none 0 0] 22)).alloc (.cells #[.bool false] 4)).alloc (.cells #[.slice none 0 0] 22)).alloc (.cells #[.string (str t)] 9)) 9 (.string ⟨#[46]⟩)
      have h5 := Boxed.new (((((w.alloc (.cells #[.slice none 0 0] 22)).alloc (.cells #[.bool false] 4)).alloc (.cells #[.slice none 0 0] 22)).alloc (.cells #[.string (str t)] 9)).alloc (.cells #[.string ⟨#[46]⟩] 9)) 3 (.int .i64 0)
      simp only [World.size_alloc] at h3 h4 h5
      exact ⟨(h3.alloc _).alloc _, h4.alloc _, h5⟩
    have bl : Below w.heap.size w W0 := by
      rw [hW0]
      exact ((((((Below.refl _ w).alloc (Nat.le_refl _) _).alloc (by simp) _).alloc (by simp; omega) _).alloc (by simp; omega) _).alloc (by simp; omega) _).alloc (by simp; omega) _
    have HI : Hid (PathI w [] W0) := ⟨⟨_, b2, World.ownsRow_nil _ _ _ _⟩, by rw [hW0]; exact Nat.le_refl _, b0, b1, bl, Nat.le_of_eq hsz.symm⟩
    have HV := Lib.hid b3
    have HZ := Lib.hid hsz
    have HW := Lib.hid hW0
    obtain ⟨s, hs⟩ : ∃ s, s = str t := ⟨_, rfl⟩
    rw [← hs] at hq HW ⊢
    clear hs b0 b1 b2 b3 bl hsz hW0 h ht
    refine (callsIn_wide (n := 5)).1 ?_
    refine callsIn_of_wp_marks Tryd.func19 rfl trivial ?_ rfl
    simp only [Tryd.ntmps19, List.size_toArray, List.length_cons, List.length_nil, Nat.reduceAdd, Nat.reduceSub, Array.replicate_succ, Array.replicate_zero, List.push_toArray, List.append_toArray, List.nil_append, List.cons_append]
    gi_wp2_with (refine ⟨trivial, ?_⟩; gi_at_call 35; refine (callsIn_wide.2 (splitSeq_any s _)).mono ?_; rintro e w' ⟨rfl, rfl⟩)
    rw [← HW.out]
    refine wpIn_rangeFunc_steps rfl (by omega) (gf := 65) (lb := #[.pointer (some ⟨w.heap.size + 3 + 1, 0, none⟩), .pointer (some ⟨w.heap.size + 3, 0, none⟩), .pointer (some ⟨w.heap.size + 3 + 2, 0, none⟩)]) rfl trivial (enters_of Tryd.func65 (by kernel_rfl) rfl)
      (split_gives 4 (by omega) (w.heap.size + 3) t hn W0 HV.out) (fun h h' => h.trans h')
      (fun W o k _ _ h => (World.grownBy_alloc W o none).block k h (by simp)) (fun W l o' hl k _ h2 _ => World.putObj_heap_other (by have := HZ.out; omega))
      (fun A B k o hG hk ho hc => (hG.1.block k (Array.getElem?_eq_some_iff.1 ho).1 (fun e => by cases e; have := HZ.out; omega)).trans ho) (fun _ => rfl)
      (PI w) (PX w) (PI.own HZ.out) (PX.own HZ.out) PI.steps PX.steps
      ⟨[], rfl, ⟨by simp, by simp⟩, HI.out⟩
      (fun x => { tmps := #[.string s, undef, .pointer (some ⟨w.heap.size, 0, none⟩), .pointer (some ⟨w.heap.size + 1, 0, none⟩), .pointer (some ⟨w.heap.size + 1 + 1, 0, none⟩), .string (str x), undef, undef, .string s, .bool false, .string s, .func (.func 65) #[] #[.pointer (some ⟨w.heap.size + 3 + 1, 0, none⟩), .pointer (some ⟨w.heap.size + 3, 0, none⟩), .pointer (some ⟨w.heap.size + 3 + 2, 0, none⟩)], .string (str x), undef, undef, undef, undef, undef, undef, undef, undef, undef, undef, undef, undef, undef, undef, undef, undef, undef], defers := [] }) ?assign ?body ?done ?stop
    case assign =>
      intro l x W K hK
      gi_wp2
      exact hK
    case body =>
      rintro l pre x W ⟨us, rfl, hfit, ⟨v, hv, hrow⟩, hdr, hX⟩ hx
      have HDR := Lib.hid hdr
      have H20 : Hid (Calls Tryd.prog 20 #[.string (str x), .int .i64 1048576] W (RetNum 1048576 W x)) := parseNumber_any (most := 1048576) (HE.out.below hX.2.2.1 HE.out.1) hx (by omega)
      have HF := Lib.hid hfit
      have HV1 := Lib.hid hv
      have HR1 := Lib.hid hrow
      have HX1 : Hid (PathX w W) := hX
      clear hfit hv hrow hX HI HV HW HZ HE hdr
      gi_wp2_with fail
      refine ⟨trivial, ?_⟩
      refine (CallsIn.inRound l (callsIn_wide.2 H20.out)).mono ?_
      rintro e W2 ⟨hb, (⟨u, hu, rfl, hd2⟩ | ⟨hno, rfl⟩)⟩
      · have hX2 := HX1.out.mild (grown_of_below hb) (fun r e => by cases e)
        have hv2 := HV1.out.kept (grown_of_below hb) (by simp)
        have hrow2 := HR1.out.below hb
        have KB := Lib.hid (keeps_below hb)
        have TB := Lib.hid (trio_below (N := w.heap.size + 3) hb)
        have HU := Lib.hid hu
        have HD2 : Hid (w.drawn ≤ W2.drawn) := Nat.le_trans HDR.out hd2
        clear hb hu HV1 HR1 HX1 H20 hd2
        by_cases h6 : us.length = 6
        · have c2 := hX2.1.cell
          have f2 := hX2.1.frozen
          have c3 := hX2.2.1.cell
          have f3 := hX2.2.1.frozen
          have HX2 := Lib.hid hX2
          have HN : Hid (∀ us', FitsP us' → ¬ us.map Lib.decDigits ++ [x] <+: us'.map Lib.decDigits) := fun us' hf hp => by
            have h1 := (prefix_snoc hp).2
            have h2 := hf.1
            simp at h1
            omega
          obtain ⟨A, c, rfl⟩ := hrow2.slice
          have c4 : W2.cell? ⟨w.heap.size + 1 + 1, 0, none⟩ = some (.slice A us.length c) := hv2.cell
          clear hX2 hv2 hrow2
          gi_wp2
          exact ⟨(KB.out.trans (KeepsOthers.setCell _ _ _)).trans (KeepsOthers.setCell _ _ _), rfl, HN.out, HX2.out.stored⟩
        · have hle : us.length < 6 := by have := HF.out.1; omega
          have HX2 := Lib.hid hX2
          have HV2 := Lib.hid hv2
          have HR2 := Lib.hid hrow2
          obtain ⟨A, c, rfl⟩ := hrow2.slice
          have c4 : W2.cell? ⟨w.heap.size + 1 + 1, 0, none⟩ = some (.slice A us.length c) := hv2.cell
          have h6' : ((us.length : Int) == 6) = false := by simp; omega
          have hsz2 := hX2.2.2.2
          clear hX2 hv2 hrow2 h6
          gi_wp2_with (gi_at_builtin; refine wpListIn_append_num rfl _ _ rfl (w.heap.size + 6) _ us rfl (World.ownsRow.alloc HR2.out _) ⟨W2.heap.size, 0, none⟩ u rfl (cell_one_new _ _ _) (by omega) (by simp; omega) ?_)
          intro v' w1 hown2 hgrow hd3
          obtain ⟨A', c', rfl⟩ := hown2.slice
          obtain ⟨p1, p2, p3, p4⟩ := path_appended HV2.out HR2.out HX2.out hown2 hgrow (Nat.le_trans HD2.out hd3)
          rw [show (us ++ [u]).length = us.length + 1 by simp] at p2 p3 p4 ⊢
          have d4 : w1.cell? ⟨w.heap.size + 1 + 1, 0, none⟩ = some (.slice A us.length c) := p1.cell
          have e4 : w1.frozen? ⟨w.heap.size + 1 + 1, 0, none⟩ = false := p1.frozen
          have P2 := Lib.hid p2
          have P3 := Lib.hid p3
          have P4 := Lib.hid p4
          clear p1 p2 p3 p4 hown2 hgrow c4 hd3
          gi_wp2
          refine ⟨KB.out.trans P3.out, TB.out.trans P4.out, us ++ [u], ?_, ⟨?_, ?_⟩, P2.out⟩
          · rw [List.map_append, HU.out.2]; rfl
          · simp; omega
          · intro y hy
            rcases List.mem_append.1 hy with h | h
            · exact HF.out.2 y h
            · simp at h; subst h; exact HU.out.1
      · have hX2 := HX1.out.mild (grown_of_below hb) (fun r e => by cases e)
        have KB := Lib.hid (keeps_below hb)
        have HN : Hid (∀ us', FitsP us' → ¬ us.map Lib.decDigits ++ [x] <+: us'.map Lib.decDigits) := fun us' hf hp => by
          obtain ⟨⟨u, hu, rfl⟩, _⟩ := prefix_snoc hp
          exact hno u ⟨hf.2 u hu, rfl⟩
        have c2 := hX2.1.cell
        have f2 := hX2.1.frozen
        have c3 := hX2.2.1.cell
        have f3 := hX2.2.1.frozen
        have HX2 := Lib.hid hX2
        clear hb hno HV1 HR1 HX1 H20 hX2
        gi_wp2
        exact ⟨(KB.out.trans (KeepsOthers.setCell _ _ _)).trans (KeepsOthers.setCell _ _ _), rfl, HN.out, HX2.out.stored⟩
    case done =>
      rintro D ys W hD rfl ⟨us, hus, hfit, ⟨v, hv, hrow⟩, hdr, h0, h1, hB, _⟩ hK
      have HDR := Lib.hid hdr
      clear hdr
      obtain ⟨A, c, rfl⟩ := hrow.slice
      have c4 : W.cell? ⟨w.heap.size + 1 + 1, 0, none⟩ = some (.slice A us.length c) := hv.cell
      have c2 := h0.cell
      have f2 := h0.frozen
      have c3 := h1.cell
      have f3 := h1.frozen
      have HR := Lib.hid hrow
      have HB := Lib.hid hB
      have HY : Hid (t = pathText us) := by rw [Hid, ← join_split t, hus]; rfl
      clear hus hrow hB
      gi_wp2
      have hK' := ((KeepsOthers.setCell W ⟨w.heap.size, 0, none⟩ (.slice A us.length c)).trans (KeepsOthers.setCell _ ⟨w.heap.size + 1, 0, none⟩ (.bool true))).same D _ hK rfl
      refine ⟨by simp, .inl ⟨_, _, rfl, run_takeDeferred hK', ?_⟩⟩
      have x0 : Boxed ((W.setCell ⟨w.heap.size, 0, none⟩ (.slice A us.length c)).setCell ⟨w.heap.size + 1, 0, none⟩ (.bool true)) w.heap.size 22 (.slice A us.length c) := (h0.set _).other (by omega) _
      have x1 : Boxed ((W.setCell ⟨w.heap.size, 0, none⟩ (.slice A us.length c)).setCell ⟨w.heap.size + 1, 0, none⟩ (.bool true)) (w.heap.size + 1) 4 (.bool true) := (h1.other (by omega) _).set _
      have y0 := cell_kept x0.cell (grownBy_putObj' _ D (.deferred none)) (fun r e => by cases e; exact ⟨_, hK', rfl⟩)
      have y1 := cell_kept x1.cell (grownBy_putObj' _ D (.deferred none)) (fun r e => by cases e; exact ⟨_, hK', rfl⟩)
      have hne : ∀ k, k < w.heap.size + 6 → (Value.slice A us.length c).ownBlock ≠ some k := fun k hk e => by
        have := (World.ownsRow.lt HR.out k e).1
        omega
      have r1 := World.ownsRow.kept (World.ownsRow.kept HR.out (grownBy_setCell' W w.heap.size (.slice A us.length c)) (.inr (hne _ (by omega)))) (grownBy_setCell' _ (w.heap.size + 1) (.bool true)) (.inr (hne _ (by omega)))
      have r2 : NumRow _ (w.heap.size + 6) _ us := ownsRow_putObj r1 (.deferred none) hK' rfl
      have bl := ((HB.out.setCell (p := ⟨w.heap.size, 0, none⟩) (Nat.le_refl _) (.slice A us.length c)).setCell (p := ⟨w.heap.size + 1, 0, none⟩) (by simp) (.bool true)).trans (belowK_b (w := w) (Nat.le_refl _) _ D _ (.deferred none) (by have := HZ.out; omega) hK' rfl rfl)
      refine ⟨.tuple #[.slice A us.length c, .bool true], ?_, bl, .inl ⟨us, _, hfit, HY.out, rfl, r2.mono (by omega), HDR.out⟩⟩
      simp [results, Tryd.f19, go_sem, y0, y1]
    case stop =>
      rintro D c pre W hD hpre ⟨rfl, hno, h0, h1, hB, _⟩ hK
      have c2 := h0.cell
      have c3 := h1.cell
      have HN : Hid (∀ us, FitsP us → t ≠ pathText us) := fun us hf he => by
        have hne : us ≠ [] := fun e => by subst e; exact HT.out he
        rw [he, split_path hne] at hpre
        exact hno us hf hpre
      have HB := Lib.hid hB
      clear hno hpre hB
      gi_wp2
      refine ⟨by simp, .inl ⟨_, _, rfl, run_takeDeferred hK, ?_⟩⟩
      have y0 := cell_kept c2 (grownBy_putObj' _ D (.deferred none)) (fun r e => by cases e; exact ⟨_, hK, rfl⟩)
      have y1 := cell_kept c3 (grownBy_putObj' _ D (.deferred none)) (fun r e => by cases e; exact ⟨_, hK, rfl⟩)
      refine ⟨.tuple #[.slice none 0 0, .bool false], ?_, HB.out.trans (belowK_b (w := w) (Nat.le_refl _) W D _ (.deferred none) (by have := HZ.out; omega) hK rfl rfl), .inr ⟨HN.out, rfl⟩⟩
      simp [results, Tryd.f19, go_sem, y0, y1]
end Go.Proofs.YtkjenigpheppjaaDoor
