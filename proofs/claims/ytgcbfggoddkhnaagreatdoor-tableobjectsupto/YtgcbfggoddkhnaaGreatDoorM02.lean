/- Lemmas for the law: E, F, G, H, I, J, Str. -/
import Derived.Test.YtgcbfggoddkhnaaGreatDoorM01
import Derived.Maps.AppendAt
import Derived.Laws.OwnMore
import Derived.Laws.Concat
import Derived.Laws.AppendOwn
namespace Go.Proofs.YtgcbfggoddkhnaaGreatDoor
open Go.RowKit Go.Shelf
attribute [local go_sem] Oper.semAt_some
def numCells (us : List Nat) : List Value := us.map fun u : Nat => Value.int .i64 (u : Int)
def NumRow (w : World) (B : Nat) (v : Value) (us : List Nat) : Prop := w.ownsRow B 3 1 v us.length (numCells us)
theorem NumRow.mono {w : World} {B B' : Nat} {v : Value} {us : List Nat} (h : NumRow w B v us) (hB : B' ≤ B) : NumRow w B' v us := by
 obtain ⟨h1, h2⟩ := h
 refine ⟨h1, ?_⟩
 rcases h2 with h2 | ⟨g, cap, cur, e, hb, r⟩
 · exact .inl h2
 · exact .inr ⟨g, cap, cur, e, Nat.le_trans hB hb, r⟩
theorem grown_of_below {W W' : World} (h : Below W.heap.size W W') : W.grownBy W' none := ⟨h.os, h.tape, h.output, h.size, fun i hi _ => h.block i hi⟩
theorem NumRow.below {w w' : World} {B : Nat} {v : Value} {us : List Nat} (h : NumRow w B v us) (hb : Below w.heap.size w w') : NumRow w' B v us :=
 World.ownsRow.kept (row := Option.none) h (grown_of_below hb) (by cases v.ownBlock <;> simp)
theorem Tryz.info3 : (Tryz.prog.info? 3).map (fun i => (i.zero, i.size, i.bytes)) = some (some (.int .i64 0), 1, 8) := by kernel_rfl
theorem append_run {w : World} (base : Nat) (ty : TypeId) (v : Value) (us : List Nat) (hown : NumRow w base v us) (ad : Addr) (u : Nat) (hc : ∀ j y, [Value.int .i64 (u : Int)][j]? = some y → w.cell? (ad.add j) = some y)
   (hn : us.length + 1 ≤ 100000000) (hbase : base ≤ w.heap.size) :
   ∃ v' w', (Builtin.append_ #[43, 43] ty #[v, .slice (some ad) 1 1]).run Tryz.prog w = .ok v' w' ∧ NumRow w' base v' (us ++ [u]) ∧ w.grownBy w' v.ownBlock ∧ w.drawn ≤ w'.drawn := by
 obtain ⟨i0, hi, hz0, hz1, hz2⟩ := info_parts Tryz.info3
 obtain ⟨v', w', hr, h2, h3, _⟩ := run_append_own (P := Tryz.prog) w base 43 ty 3 i0 _ 1 8 Tryz.underlying43 hi hz0 hz1 hz2 rfl (by decide) v us.length _ hown ad 1 1 [.int .i64 (u : Int)] rfl hc (by simp [Value.oneCell']) (by unfold maxLen; omega) (by omega) hbase
 refine ⟨v', w', hr, by unfold NumRow numCells; rw [List.map_append, List.length_append]; exact h2, h3, ?_⟩
 have h0 : w.ownsRow base 3 1 v us.length (numCells us) := hown
 rcases h0.2 with ⟨rfl, he⟩ | ⟨g, cap, cur, rfl, hb, hh, hnc, hcm, hcs, htake⟩
 · have hx := run_append_nil (P := Tryz.prog) w 43 ty 3 i0 _ Tryz.underlying43 hi hz0 ad 1 1 [.int .i64 (u : Int)] (by rw [hz1]; rfl) hc (by omega) (by omega) (by omega)
   rw [hx] at hr
   injection hr with _ hr
   rw [← hr]
   exact Nat.le_add_right _ 1
 · by_cases hroom : us.length + 1 ≤ cap
   · have hx := run_append_room (P := Tryz.prog) w 43 ty 3 i0 Tryz.underlying43 hi g us.length cap cur hh ad 1 1 [.int .i64 (u : Int)] (by rw [hz1]; rfl) hc (by simp [Value.oneCell']) hroom (by rw [hz1, hcs]; simp; omega)
     rw [hx] at hr
     injection hr with _ hr
     rw [← hr]
     exact Nat.le_refl _
   · have hx := run_append_grow (P := Tryz.prog) w 43 ty 3 i0 _ Tryz.underlying43 hi hz0 ⟨g, 0, none⟩ us.length cap (numCells us) (by rw [hz1]; exact h0.1) (h0.cells (g := g) rfl) ad 1 1 [.int .i64 (u : Int)] (by rw [hz1]; rfl) hc (by omega) (by omega) (growslice_fits (by omega) (by rw [hz2]; omega))
     rw [hx] at hr
     injection hr with _ hr
     rw [← hr]
     exact Nat.le_add_right _ 1
theorem wpListIn_append_num {F : Fence} {n : Nat} {w : World} {ops : Array Oper} {rest : List Oper} {o : Oper} {a : Act} {Q : Exit → Act → World → Prop} (hgd : o.guard = none) (s x : Operand)
   (ho : o.op = .call { callee := .builtin .append, args := #[s, x], argTypes := #[43, 43] }) (base : Nat) (v : Value) (us : List Nat) (hs : a.eval s = v)
   (hown : NumRow w base v us) (ad : Addr) (u : Nat) (hxe : a.eval x = .slice (some ad) 1 1) (hc : ∀ j y, [Value.int .i64 (u : Int)][j]? = some y → w.cell? (ad.add j) = some y)
   (hn : us.length + 1 ≤ 100000000) (hbase : base ≤ w.heap.size)
   (h : ∀ v' w', NumRow w' base v' (us ++ [u]) → w.grownBy w' v.ownBlock → w.drawn ≤ w'.drawn → wpListIn F n Tryz.prog ops Q rest (a.put o.dst v') w') : wpListIn F n Tryz.prog ops Q (o :: rest) a w := by
 refine wpListIn_plain hgd fun K hK => ?_
 obtain ⟨v', w', hr, h1, h2, h3⟩ := append_run base o.type v us hown ad u hc hn hbase
 unfold Oper.wpIn
 refine ⟨?_, ?_⟩
 · simp [Oper.about, ho, resolve, Target.leads, Sem.run_pure]
 · rw [Oper.semAt_plain F _ _ (by rw [ho]; intro c hc'; cases hc')]
   simp [execOp, ho, resolve, invoke, builtin, hs, hxe, hr, Result.andThen]
   exact hK _ _ (h v' w' h1 h2 h3)
def PathI (w : World) (us : List Nat) (W : World) : Prop :=
 (∃ v, Boxed W (w.heap.size + 2) 43 v ∧ NumRow W (w.heap.size + 6) v us) ∧ w.drawn ≤ W.drawn ∧ Boxed W w.heap.size 43 (.slice none 0 0) ∧ Boxed W (w.heap.size + 1) 4 (.bool false) ∧ Below w.heap.size w W ∧ w.heap.size + 6 ≤ W.heap.size
def PathX (w W : World) : Prop := Boxed W w.heap.size 43 (.slice none 0 0) ∧ Boxed W (w.heap.size + 1) 4 (.bool false) ∧ Below w.heap.size w W ∧ w.heap.size + 6 ≤ W.heap.size
def Mild (M : Nat) (A : World) (row : Option Nat) : Prop := ∀ r, row = some r → (M + 3 ≤ r ∧ r < M + 6) ∨ (M + 6 ≤ r ∧ ∃ o : Obj, A.heap[r]? = some o ∧ o.isCells = false)
theorem boxed_mild {A B : World} {M k : Nat} {row : Option Nat} {t : TypeId} {v : Value} (h : Boxed A k t v) (hk : k < M + 3) (hg : A.grownBy B row) (hr : Mild M A row) : Boxed B k t v :=
 h.kept hg fun e => by rcases hr k e.symm with h | h <;> omega
theorem PathX.mild {w A B : World} {row : Option Nat} (h : PathX w A) (hg : A.grownBy B row) (hr : Mild w.heap.size A row) : PathX w B :=
 ⟨boxed_mild h.1 (by omega) hg hr, boxed_mild h.2.1 (by omega) hg hr, h.2.2.1.grown hg h.2.2.1.size (fun k e => by rcases hr k e with h | h <;> omega), Nat.le_trans h.2.2.2 hg.size⟩
theorem PathI.mild {w A B : World} {us : List Nat} {row : Option Nat} (h : PathI w us A) (hg : A.grownBy B row) (hr : Mild w.heap.size A row) (hd : A.drawn ≤ B.drawn) : PathI w us B := by
 obtain ⟨⟨v, hv, hrow⟩, hd0, h2⟩ := h
 refine ⟨⟨v, boxed_mild hv (by omega) hg hr, ?_⟩, Nat.le_trans hd0 hd, (PathX.mild h2 hg hr)⟩
 refine World.ownsRow.kept hrow hg ?_
 have hrow0 : A.ownsRow (w.heap.size + 6) 3 1 v us.length (numCells us) := hrow
 rcases hrow0.2 with ⟨rfl, _⟩ | ⟨g, cap, cur, rfl, hb, hgb, _⟩
 · exact .inl rfl
 · refine .inr fun e => ?_
   rcases hr g (by simpa [Value.ownBlock] using e.symm) with h | ⟨_, o, ho, hc⟩
   · omega
   · rw [hgb] at ho; cases ho; cases hc
def RetPath (w : World) (t : List UInt8) (e : Ending) (w' : World) : Prop :=
 Below w.heap.size w w' ∧ ((∃ us v, FitsP us ∧ t = pathText us ∧ e = .returned (.tuple #[v, .bool true]) ∧ NumRow w' w.heap.size v us ∧ w.drawn ≤ w'.drawn) ∨
  ((∀ us, FitsP us → t ≠ pathText us) ∧ e = .returned (.tuple #[.slice none 0 0, .bool false])))
theorem prefix_snoc {pre : List (List UInt8)} {x : List UInt8} {us : List Nat} (h : pre ++ [x] <+: us.map Lib.decDigits) : (∃ u ∈ us, x = Lib.decDigits u) ∧ pre.length < us.length := by
 obtain ⟨r, hr⟩ := h
 have hx : x ∈ us.map Lib.decDigits := by rw [← hr]; simp
 obtain ⟨u, hu, rfl⟩ := List.mem_map.1 hx
 have := congrArg List.length hr
 simp at this
 exact ⟨⟨u, hu, rfl⟩, by omega⟩
def PI (w : World) (pre : List (List UInt8)) (W : World) : Prop := ∃ us, pre = us.map Lib.decDigits ∧ FitsP us ∧ PathI w us W
def PX (w : World) (c : Code) (pre : List (List UInt8)) (W : World) : Prop := c = .ret ∧ (∀ us, FitsP us → ¬ pre <+: us.map Lib.decDigits) ∧ PathX w W
theorem PI.own {w : World} {n : Nat} (hn : n = w.heap.size + 6) : Abides n (PI w) := by
 subst hn
 refine ⟨fun s W o ⟨us, h1, h2, h3⟩ => ⟨us, h1, h2, h3.mild (World.grownBy_alloc W o none) (fun r e => by cases e) (Nat.le_refl _)⟩, fun s W l o o' ⟨us, h1, h2, h3⟩ hl ho hc => ⟨us, h1, h2, h3.mild (grownBy_putObj' W l o') (fun r e => by cases e; exact .inr ⟨hl, o, ho, hc⟩) (Nat.le_refl _)⟩⟩
theorem PX.own {w : World} {n : Nat} (hn : n = w.heap.size + 6) (c : Code) : Abides n (PX w c) := by
 subst hn
 refine ⟨fun s W o ⟨h1, h2, h3⟩ => ⟨h1, h2, h3.mild (World.grownBy_alloc W o none) (fun r e => by cases e)⟩, fun s W l o o' ⟨h1, h2, h3⟩ hl ho hc => ⟨h1, h2, h3.mild (grownBy_putObj' W l o') (fun r e => by cases e; exact .inr ⟨hl, o, ho, hc⟩)⟩⟩
theorem PI.steps {w : World} (pre : List (List UInt8)) (A B : World) (h : PI w pre A) (hG : Steps (w.heap.size + 3) A B) : PI w pre B := by
 obtain ⟨us, h1, h2, h3⟩ := h
 exact ⟨us, h1, h2, h3.mild hG.1 (fun r e => .inl (by cases e; omega)) hG.2⟩
theorem PX.steps {w : World} (c : Code) (pre : List (List UInt8)) (A B : World) (h : PX w c pre A) (hG : Steps (w.heap.size + 3) A B) : PX w c pre B :=
 ⟨h.1, h.2.1, h.2.2.mild hG.1 (fun r e => .inl (by cases e; omega))⟩
theorem NumRow.slice {w : World} {B : Nat} {v : Value} {us : List Nat} (h : NumRow w B v us) : ∃ A c, v = .slice A us.length c := by
 have h0 : w.ownsRow B 3 1 v us.length (numCells us) := h
 rcases h0.2 with ⟨rfl, he⟩ | ⟨g, cap, cur, rfl, _⟩
 · exact ⟨none, 0, by rw [he]⟩
 · exact ⟨_, cap, rfl⟩
theorem PathX.stored {w W : World} (h : PathX w W) : PathX w ((W.setCell ⟨w.heap.size, 0, none⟩ (.slice none 0 0)).setCell ⟨w.heap.size + 1, 0, none⟩ (.bool false)) := by
 have h1 := h.2.1.other (B' := w.heap.size) (by omega) (.slice none 0 0)
 refine ⟨(h.1.set _).other (by omega) _, h1.set _, (h.2.2.1.setCell (p := ⟨w.heap.size, 0, none⟩) (Nat.le_refl _) _).setCell (p := ⟨w.heap.size + 1, 0, none⟩) (by simp) _, ?_⟩
 exact Nat.le_trans h.2.2.2 (Nat.le_trans (grownBy_setCell' W w.heap.size _).size (grownBy_setCell' _ (w.heap.size + 1) _).size)
theorem keeps_below {W W' : World} (h : Below W.heap.size W W') : KeepsOthers W W' := KeepsOthers.of_grownBy (grown_of_below h) (fun _ _ e _ => by cases e)
theorem trio_below {W W' : World} {N : Nat} (h : Below W.heap.size W W') : Trio N W W' := fun k _ _ hk => h.block k hk
theorem path_appended {w W w1 : World} {us : List Nat} {u : Nat} {v v' : Value} {tmp : Obj} (hv : Boxed W (w.heap.size + 2) 43 v) (hrow : NumRow W (w.heap.size + 6) v us) (hX : PathX w W)
   (hown : NumRow w1 (w.heap.size + 6) v' (us ++ [u])) (hgrow : (W.alloc tmp).grownBy w1 v.ownBlock) (hd : w.drawn ≤ w1.drawn) :
   Boxed w1 (w.heap.size + 2) 43 v ∧ PathI w (us ++ [u]) (w1.setCell ⟨w.heap.size + 2, 0, none⟩ v') ∧ KeepsOthers W (w1.setCell ⟨w.heap.size + 2, 0, none⟩ v') ∧ Trio (w.heap.size + 3) W (w1.setCell ⟨w.heap.size + 2, 0, none⟩ v') := by
 have hne : ∀ k, k < w.heap.size + 6 → some k ≠ v.ownBlock := fun k hk e => by
   have := (World.ownsRow.lt hrow k e.symm).1
   omega
 have hne' : ∀ k, k < w.heap.size + 6 → some k ≠ v'.ownBlock := fun k hk e => by
   have := (World.ownsRow.lt hown k e.symm).1
   omega
 have v1 := (hv.alloc tmp).kept hgrow (hne _ (by omega))
 have x0 := (hX.1.alloc tmp).kept hgrow (hne _ (by omega))
 have x1 := (hX.2.1.alloc tmp).kept hgrow (hne _ (by omega))
 refine ⟨v1, ⟨⟨v', v1.set v', World.ownsRow.kept hown (grownBy_setCell' w1 _ v') (.inr fun e => hne' _ (by omega) e.symm)⟩, hd, x0.other (by omega) _, x1.other (by omega) _, ?_, ?_⟩, ?_, ?_⟩
 · refine ((hX.2.2.1.alloc hX.2.2.1.size tmp).grown hgrow (by have := hX.2.2.1.size; simp; omega) fun j e => ?_).setCell (p := ⟨w.heap.size + 2, 0, none⟩) (by simp) v'
   have := (World.ownsRow.lt hrow j e).1
   omega
 · have h1 := hgrow.size
   have h2 := (grownBy_setCell' w1 (w.heap.size + 2) v').size
   rw [World.size_alloc] at h1
   have := hX.2.2.2
   omega
 · refine ((KeepsOthers.alloc W tmp).trans (KeepsOthers.of_grownBy hgrow fun j o ej hj => ?_)).trans (KeepsOthers.setCell _ _ _)
   have hr : (W.alloc tmp).ownsRow (w.heap.size + 6) 3 1 v us.length (numCells us) := World.ownsRow.alloc hrow tmp
   rcases hr.2 with ⟨rfl, _⟩ | ⟨g, cap, cur, rfl, _, hgb, _⟩
   · simp [Value.ownBlock] at ej
   · obtain rfl : g = j := by simpa [Value.ownBlock] using ej
     rw [hgb] at hj; cases hj; rfl
 · intro k h1 h2 h3
   refine ((grownBy_setCell' w1 (w.heap.size + 2) v').block k ?_ (by intro e; injection e with e; omega)).trans ((hgrow.block k (by simp; omega) (hne k (by omega))).trans ((World.grownBy_alloc W tmp none).block k h3 (by simp)))
   exact Nat.lt_of_lt_of_le (by simp; omega) hgrow.size
set_option maxRecDepth 100000 in
set_option maxHeartbeats 4000000 in
theorem parsePath_any {w : World} {t : List UInt8} (h : Env w) (hn : t.length ≤ 140737488351232) : Calls Tryz.prog 174 #[.string (str t)] w (RetPath w t) := by
 by_cases ht : t = []
 · subst ht
   have hq : (str []).toList.isEmpty = true := by rw [ByteArray.toList_eq, str_list]; rfl
   obtain ⟨s, hs⟩ : ∃ s, s = str [] := ⟨_, rfl⟩
   rw [← hs] at hq ⊢
   clear hs
   go_enter Tryz.func174, Tryz.ntmps174
   go_wp2_with fail
   refine bodyPost_ret (v := .tuple #[.slice none 0 0, .bool true]) ?_ rfl ⟨((Below.refl _ w).alloc (Nat.le_refl _) _).alloc (by simp) _, .inl ⟨[], _, ⟨by simp, by simp⟩, rfl, rfl, World.ownsRow_nil _ _ _ _, Nat.le_refl _⟩⟩
   simp [results, Tryz.f174, go_sem]
 · have hq : (str t).toList.isEmpty = false := by rw [ByteArray.toList_eq, str_list]; simpa using ht
   have HE := Lib.hid h
   have HT := Lib.hid ht
   obtain ⟨W0, hW0⟩ : ∃ W0, W0 = ((((((w.alloc (.cells #[.slice none 0 0] 43)).alloc (.cells #[.bool false] 4)).alloc (.cells #[.slice none 0 0] 43)).alloc (.cells #[.string (str t)] 9)).alloc (.cells #[.string ⟨#[46]⟩] 9)).alloc (.cells #[.int .i64 0] 3)) := ⟨_, rfl⟩
   have hsz : W0.heap.size = w.heap.size + 6 := by rw [hW0]; simp
   have b0 : Boxed W0 w.heap.size 43 (.slice none 0 0) := by rw [hW0]; exact ((((((Boxed.new w 43 _).alloc _).alloc _).alloc _).alloc _).alloc _)
   have b1 : Boxed W0 (w.heap.size + 1) 4 (.bool false) := by
    rw [hW0]
    have := Boxed.new (w.alloc (.cells #[.slice none 0 0] 43)) 4 (.bool false)
    rw [World.size_alloc] at this
    exact ((((this.alloc _).alloc _).alloc _).alloc _)
   have b2 : Boxed W0 (w.heap.size + 2) 43 (.slice none 0 0) := by
    rw [hW0]
    have := Boxed.new ((w.alloc (.cells #[.slice none 0 0] 43)).alloc (.cells #[.bool false] 4)) 43 (.slice none 0 0)
    rw [World.size_alloc, World.size_alloc] at this
    exact (((this.alloc _).alloc _).alloc _)
   have b3 : Vars W0 (w.heap.size + 3) t := by
    rw [hW0]
    have h3 := Boxed.new (((w.alloc (.cells #[.slice none 0 0] 43)).alloc (.cells #[.bool false] 4)).alloc (.cells #[.slice none 0 0] 43)) 9 (.string (str t))
    have h4 := Boxed.new ((((w.alloc (.cells #[.slice none 0 0] 43)).alloc (.cells #[.bool false] 4)).alloc (.cells #[.slice none 0 0] 43)).alloc (.cells #[.string (str t)] 9)) 9 (.string ⟨#[46]⟩)
    have h5 := Boxed.new (((((w.alloc (.cells #[.slice none 0 0] 43)).alloc (.cells #[.bool false] 4)).alloc (.cells #[.slice none 0 0] 43)).alloc (.cells #[.string (str t)] 9)).alloc (.cells #[.string ⟨#[46]⟩] 9)) 3 (.int .i64 0)
    simp only [World.size_alloc] at h3 h4 h5
    exact ⟨(h3.alloc _).alloc _, h4.alloc _, h5⟩
   have bl : Below w.heap.size w W0 := by
    rw [hW0]
    exact ((((((Below.refl _ w).alloc (Nat.le_refl _) _).alloc (by simp) _).alloc (by simp; omega) _).alloc (by simp; omega) _).alloc (by simp; omega) _).alloc (by simp; omega) _
   have HI : Hid (PathI w [] W0) := ⟨⟨_, b2, World.ownsRow_nil _ _ _ _⟩, by rw [hW0]; exact Nat.le_refl _, b0, b1, bl, Nat.le_of_eq hsz.symm⟩
   have HV := Lib.hid b3
   have HZ := Lib.hid hsz
   have HW := Lib.hid hW0
   obtain ⟨s, hs⟩ : ∃ s, s = str t := ⟨_, rfl⟩
   rw [← hs] at hq HW ⊢
   clear hs b0 b1 b2 b3 bl hsz hW0 h ht
   refine (callsIn_wide (n := 5)).1 ?_
   refine callsIn_of_wp_marks Tryz.func174 rfl trivial ?_ rfl
   simp only [Tryz.ntmps174, List.size_toArray, List.length_cons, List.length_nil, Nat.reduceAdd, Nat.reduceSub, Array.replicate_succ, Array.replicate_zero, List.push_toArray, List.append_toArray, List.nil_append, List.cons_append]
   gi_wp2_with (refine ⟨trivial, ?_⟩; gi_at_call 121; refine (callsIn_wide.2 (splitSeq_any s _)).mono ?_; rintro e w' ⟨rfl, rfl⟩)
   rw [← HW.out]
   refine wpIn_rangeFunc_steps rfl (by omega) (gf := 183) (lb := #[.pointer (some ⟨w.heap.size + 3 + 1, 0, none⟩), .pointer (some ⟨w.heap.size + 3, 0, none⟩), .pointer (some ⟨w.heap.size + 3 + 2, 0, none⟩)]) rfl trivial (enters_of Tryz.func183 (by kernel_rfl) rfl)
    (split_gives 4 (by omega) (w.heap.size + 3) t hn W0 HV.out) (fun h h' => h.trans h')
    (fun W o k _ _ h => (World.grownBy_alloc W o none).block k h (by simp)) (fun W l o' hl k _ h2 _ => World.putObj_heap_other (by have := HZ.out; omega))
    (fun A B k o hG hk ho hc => (hG.1.block k (Array.getElem?_eq_some_iff.1 ho).1 (fun e => by cases e; have := HZ.out; omega)).trans ho) (fun _ => rfl)
    (PI w) (PX w) (PI.own HZ.out) (PX.own HZ.out) PI.steps PX.steps
    ⟨[], rfl, ⟨by simp, by simp⟩, HI.out⟩
    (fun x => { tmps := #[.string s, undef, .pointer (some ⟨w.heap.size, 0, none⟩), .pointer (some ⟨w.heap.size + 1, 0, none⟩), .pointer (some ⟨w.heap.size + 1 + 1, 0, none⟩), .string (str x), undef, undef, .string s, .bool false, .string s, .func (.func 183) #[] #[.pointer (some ⟨w.heap.size + 3 + 1, 0, none⟩), .pointer (some ⟨w.heap.size + 3, 0, none⟩), .pointer (some ⟨w.heap.size + 3 + 2, 0, none⟩)], .string (str x), undef, undef, undef, undef, undef, undef, undef, undef, undef, undef, undef, undef, undef, undef, undef, undef, undef], defers := [] }) ?assign ?body ?done ?stop
   case assign =>
    intro l x W K hK
    gi_wp2
    exact hK
   case body =>
    rintro l pre x W ⟨us, rfl, hfit, ⟨v, hv, hrow⟩, hdr, hX⟩ hx
    have HDR := Lib.hid hdr
    have H20 : Hid (Calls Tryz.prog 175 #[.string (str x), .int .i64 1048576] W (RetNum 1048576 W x)) := parseNumber_any (most := 1048576) (HE.out.below hX.2.2.1 HE.out.1) hx (by omega)
    have HF := Lib.hid hfit
    have HV1 := Lib.hid hv
    have HR1 := Lib.hid hrow
    have HX1 : Hid (PathX w W) := hX
    clear hfit hv hrow hX HI HV HW HZ HE hdr
    gi_wp2_with fail
    refine ⟨trivial, ?_⟩
    refine (CallsIn.inRound l (callsIn_wide.2 H20.out)).mono ?_
    rintro e W2 ⟨hb, (⟨u, hu, rfl, hd2⟩ | ⟨hno, rfl⟩)⟩
    · have hX2 := HX1.out.mild (grown_of_below hb) (fun r e => by cases e)
      have hv2 := HV1.out.kept (grown_of_below hb) (by simp)
      have hrow2 := HR1.out.below hb
      have KB := Lib.hid (keeps_below hb)
      have TB := Lib.hid (trio_below (N := w.heap.size + 3) hb)
      have HU := Lib.hid hu
      have HD2 : Hid (w.drawn ≤ W2.drawn) := Nat.le_trans HDR.out hd2
      clear hb hu HV1 HR1 HX1 H20 hd2
      by_cases h6 : us.length = 6
      · have c2 := hX2.1.cell
        have f2 := hX2.1.frozen
        have c3 := hX2.2.1.cell
        have f3 := hX2.2.1.frozen
        have HX2 := Lib.hid hX2
        have HN : Hid (∀ us', FitsP us' → ¬ us.map Lib.decDigits ++ [x] <+: us'.map Lib.decDigits) := fun us' hf hp => by
          have h1 := (prefix_snoc hp).2
          have h2 := hf.1
          simp at h1
          omega
        obtain ⟨A, c, rfl⟩ := hrow2.slice
        have c4 : W2.cell? ⟨w.heap.size + 1 + 1, 0, none⟩ = some (.slice A us.length c) := hv2.cell
        clear hX2 hv2 hrow2
        gi_wp2
        exact ⟨(KB.out.trans (KeepsOthers.setCell _ _ _)).trans (KeepsOthers.setCell _ _ _), rfl, HN.out, HX2.out.stored⟩
      · have hle : us.length < 6 := by have := HF.out.1; omega
        have HX2 := Lib.hid hX2
        have HV2 := Lib.hid hv2
        have HR2 := Lib.hid hrow2
        obtain ⟨A, c, rfl⟩ := hrow2.slice
        have c4 : W2.cell? ⟨w.heap.size + 1 + 1, 0, none⟩ = some (.slice A us.length c) := hv2.cell
        have h6' : ((us.length : Int) == 6) = false := by simp; omega
        have hsz2 := hX2.2.2.2
        clear hX2 hv2 hrow2 h6
        gi_wp2_with (gi_at_builtin; refine wpListIn_append_num rfl _ _ rfl (w.heap.size + 6) _ us rfl (World.ownsRow.alloc HR2.out _) ⟨W2.heap.size, 0, none⟩ u rfl (cell_one_new _ _ _) (by omega) (by simp; omega) ?_)
        intro v' w1 hown2 hgrow hd3
        obtain ⟨A', c', rfl⟩ := hown2.slice
        obtain ⟨p1, p2, p3, p4⟩ := path_appended HV2.out HR2.out HX2.out hown2 hgrow (Nat.le_trans HD2.out hd3)
        rw [show (us ++ [u]).length = us.length + 1 by simp] at p2 p3 p4 ⊢
        have d4 : w1.cell? ⟨w.heap.size + 1 + 1, 0, none⟩ = some (.slice A us.length c) := p1.cell
        have e4 : w1.frozen? ⟨w.heap.size + 1 + 1, 0, none⟩ = false := p1.frozen
        have P2 := Lib.hid p2
        have P3 := Lib.hid p3
        have P4 := Lib.hid p4
        clear p1 p2 p3 p4 hown2 hgrow c4 hd3
        gi_wp2
        refine ⟨KB.out.trans P3.out, TB.out.trans P4.out, us ++ [u], ?_, ⟨?_, ?_⟩, P2.out⟩
        · rw [List.map_append, HU.out.2]; rfl
        · simp; omega
        · intro y hy
          rcases List.mem_append.1 hy with h | h
          · exact HF.out.2 y h
          · simp at h; subst h; exact HU.out.1
    · have hX2 := HX1.out.mild (grown_of_below hb) (fun r e => by cases e)
      have KB := Lib.hid (keeps_below hb)
      have HN : Hid (∀ us', FitsP us' → ¬ us.map Lib.decDigits ++ [x] <+: us'.map Lib.decDigits) := fun us' hf hp => by
        obtain ⟨⟨u, hu, rfl⟩, _⟩ := prefix_snoc hp
        exact hno u ⟨hf.2 u hu, rfl⟩
      have c2 := hX2.1.cell
      have f2 := hX2.1.frozen
      have c3 := hX2.2.1.cell
      have f3 := hX2.2.1.frozen
      have HX2 := Lib.hid hX2
      clear hb hno HV1 HR1 HX1 H20 hX2
      gi_wp2
      exact ⟨(KB.out.trans (KeepsOthers.setCell _ _ _)).trans (KeepsOthers.setCell _ _ _), rfl, HN.out, HX2.out.stored⟩
   case done =>
    rintro D ys W hD rfl ⟨us, hus, hfit, ⟨v, hv, hrow⟩, hdr, h0, h1, hB, _⟩ hK
    have HDR := Lib.hid hdr
    clear hdr
    obtain ⟨A, c, rfl⟩ := hrow.slice
    have c4 : W.cell? ⟨w.heap.size + 1 + 1, 0, none⟩ = some (.slice A us.length c) := hv.cell
    have c2 := h0.cell
    have f2 := h0.frozen
    have c3 := h1.cell
    have f3 := h1.frozen
    have HR := Lib.hid hrow
    have HB := Lib.hid hB
    have HY : Hid (t = pathText us) := by rw [Hid, ← join_split t, hus]; rfl
    clear hus hrow hB
    gi_wp2
    have hK' := ((KeepsOthers.setCell W ⟨w.heap.size, 0, none⟩ (.slice A us.length c)).trans (KeepsOthers.setCell _ ⟨w.heap.size + 1, 0, none⟩ (.bool true))).same D _ hK rfl
    refine ⟨by simp, .inl ⟨_, _, rfl, run_takeDeferred hK', ?_⟩⟩
    have x0 : Boxed ((W.setCell ⟨w.heap.size, 0, none⟩ (.slice A us.length c)).setCell ⟨w.heap.size + 1, 0, none⟩ (.bool true)) w.heap.size 43 (.slice A us.length c) := (h0.set _).other (by omega) _
    have x1 : Boxed ((W.setCell ⟨w.heap.size, 0, none⟩ (.slice A us.length c)).setCell ⟨w.heap.size + 1, 0, none⟩ (.bool true)) (w.heap.size + 1) 4 (.bool true) := (h1.other (by omega) _).set _
    have y0 := cell_kept x0.cell (grownBy_putObj' _ D (.deferred none)) (fun r e => by cases e; exact ⟨_, hK', rfl⟩)
    have y1 := cell_kept x1.cell (grownBy_putObj' _ D (.deferred none)) (fun r e => by cases e; exact ⟨_, hK', rfl⟩)
    have hne : ∀ k, k < w.heap.size + 6 → (Value.slice A us.length c).ownBlock ≠ some k := fun k hk e => by
      have := (World.ownsRow.lt HR.out k e).1
      omega
    have r1 := World.ownsRow.kept (World.ownsRow.kept HR.out (grownBy_setCell' W w.heap.size (.slice A us.length c)) (.inr (hne _ (by omega)))) (grownBy_setCell' _ (w.heap.size + 1) (.bool true)) (.inr (hne _ (by omega)))
    have r2 : NumRow _ (w.heap.size + 6) _ us := ownsRow_putObj r1 (.deferred none) hK' rfl
    have bl := ((HB.out.setCell (p := ⟨w.heap.size, 0, none⟩) (Nat.le_refl _) (.slice A us.length c)).setCell (p := ⟨w.heap.size + 1, 0, none⟩) (by simp) (.bool true)).trans (belowK_b (w := w) (Nat.le_refl _) _ D _ (.deferred none) (by have := HZ.out; omega) hK' rfl rfl)
    refine ⟨.tuple #[.slice A us.length c, .bool true], ?_, bl, .inl ⟨us, _, hfit, HY.out, rfl, r2.mono (by omega), HDR.out⟩⟩
    simp [results, Tryz.f174, go_sem, y0, y1]
   case stop =>
    rintro D c pre W hD hpre ⟨rfl, hno, h0, h1, hB, _⟩ hK
    have c2 := h0.cell
    have c3 := h1.cell
    have HN : Hid (∀ us, FitsP us → t ≠ pathText us) := fun us hf he => by
      have hne : us ≠ [] := fun e => by subst e; exact HT.out he
      rw [he, split_path hne] at hpre
      exact hno us hf hpre
    have HB := Lib.hid hB
    clear hno hpre hB
    gi_wp2
    refine ⟨by simp, .inl ⟨_, _, rfl, run_takeDeferred hK, ?_⟩⟩
    have y0 := cell_kept c2 (grownBy_putObj' _ D (.deferred none)) (fun r e => by cases e; exact ⟨_, hK, rfl⟩)
    have y1 := cell_kept c3 (grownBy_putObj' _ D (.deferred none)) (fun r e => by cases e; exact ⟨_, hK, rfl⟩)
    refine ⟨.tuple #[.slice none 0 0, .bool false], ?_, HB.out.trans (belowK_b (w := w) (Nat.le_refl _) W D _ (.deferred none) (by have := HZ.out; omega) hK rfl rfl), .inr ⟨HN.out, rfl⟩⟩
    simp [results, Tryz.f174, go_sem, y0, y1]
end Go.Proofs.YtgcbfggoddkhnaaGreatDoor
namespace Go.Proofs.YtgcbfggoddkhnaaGreatDoor
open Go.RowKit
def Sides (s a b : List UInt8) : Prop :=
 a.length ≤ s.length ∧ b.length ≤ s.length ∧ (∀ p n, s = catText p n → a = pathText p ∧ b = Lib.decDigits n) ∧ (∀ p n, a = pathText p → b = Lib.decDigits n → s = catText p n)
theorem sides_of (s : List UInt8) : ∃ a b fd, Lib.cut s [47] = (a, b, fd) ∧ Sides s a b := by
 by_cases h : 47 ∈ s
 · obtain ⟨a, b, rfl, hn⟩ := part_at s 47 h
   refine ⟨a, b, true, cut_one hn, by simp, by simp; omega, fun p n he => ?_, fun p n h1 h2 => by rw [h1, h2]; rfl⟩
   have h1 : Lib.cut (catText p n) [47] = (pathText p, Lib.decDigits n, true) := cut_one (path_no_slash p)
   rw [← he, cut_one hn] at h1
   simp only [Prod.mk.injEq] at h1
   exact ⟨h1.1, h1.2.1⟩
 · refine ⟨s, [], false, cut_no h, by simp, by simp, fun p n he => ?_, fun p n _ h2 => absurd h2.symm (dec_ne n)⟩
   exact absurd (by rw [he]; simp [catText]) h
theorem cut_any {w : World} {s a b : List UInt8} {fd : Bool} (hn : s.length ≤ 140737488351232) (hc : Lib.cut s [47] = (a, b, fd)) :
  Calls Tryz.prog 173 #[.string (str s), .string ⟨#[47]⟩] w fun e w' => RetB w (.tuple #[.string (str a), .string (str b), .bool fd]) e w' ∧ w.drawn ≤ w'.drawn := by
 refine (cutOne (str s) 47 (by rw [str_size]; exact hn) w).mono ?_
 rintro e w' ⟨rfl, n, rfl⟩
 refine ⟨⟨?_, below_drewN (Below.refl _ _) n⟩, Nat.le_add_right _ _⟩
 have e1 : Lib.cut (str s).data.toList [47] = (a, b, fd) := by rw [str_list]; exact hc
 rw [e1]
 rfl
def RetCat (w : World) (s : List UInt8) (e : Ending) (w' : World) : Prop :=
 Below w.heap.size w w' ∧ ((∃ p n v, catOf s = some (p, n) ∧ e = .returned (.tuple #[v, .int .i64 (n : Int), .bool true]) ∧ NumRow w' w.heap.size v p ∧ w.drawn ≤ w'.drawn) ∨
  (catOf s = none ∧ e = .returned (.tuple #[.slice none 0 0, .int .i64 0, .bool false])))
set_option maxRecDepth 100000 in
theorem parse_any {w : World} {s : List UInt8} (h : Env w) (hn : s.length ≤ 140737488351232) : Calls Tryz.prog 141 #[.string (str s)] w (RetCat w s) := by
 obtain ⟨a, b, fd, hcut, ha, hb, hs1, hs2⟩ := sides_of s
 have HE := Lib.hid h
 have H18 := Lib.hid (cut_any (w := w) hn hcut)
 have HS1 := Lib.hid hs1
 have HS2 := Lib.hid hs2
 clear h hs1 hs2 hcut
 go_enter Tryz.func141, Tryz.ntmps141
 go_wp2_with fail
 refine H18.out.mono ?_
 rintro e w1 ⟨⟨rfl, hb1⟩, hd1⟩
 have E1 := Lib.hid (HE.out.on hb1)
 have B1 := Lib.hid hb1
 have D1 := Lib.hid hd1
 clear hb1 hd1
 go_wp2_with fail
 refine (parsePath_any E1.out (by omega)).mono ?_
 rintro e w2 ⟨hb2, hp⟩
 have E2 := Lib.hid (E1.out.on hb2)
 have B2 := Lib.hid (B1.out.trans (hb2.mono B1.out.size))
 have H20 : Hid (Calls Tryz.prog 175 #[.string (str b), .int .i64 65535] w2 (RetNum 65535 w2 b)) := parseNumber_any (most := 65535) E2.out (by omega) (by omega)
 clear hb2
 rcases hp with ⟨us, v, hf, hpt, rfl, hrow, hd2⟩ | ⟨hno, rfl⟩
 · have HR := Lib.hid (hrow.mono B1.out.size)
   have HF := Lib.hid hf
   have HP := Lib.hid hpt
   have D2 : Hid (w.drawn ≤ w2.drawn) := Nat.le_trans D1.out hd2
   clear hrow hf hpt hd2
   go_wp2_with fail
   refine H20.out.mono ?_
   rintro e w3 ⟨hb3, (⟨u, hu, rfl, hd3⟩ | ⟨hno, rfl⟩)⟩
   · have D3 : Hid (w.drawn ≤ w3.drawn) := Nat.le_trans D2.out hd3
     have HC : Hid (catOf s = some (us, u)) := catOf_iff.2 ⟨⟨HF.out, hu.1⟩, HS2.out us u HP.out hu.2⟩
     have B3 := Lib.hid (B2.out.trans (hb3.mono B2.out.size))
     have HR3 := Lib.hid (HR.out.below hb3)
     clear hb3 hu hd3
     go_wp2_with fail
     go_ret3
     exact ⟨B3.out, .inl ⟨us, u, v, HC.out, rfl, HR3.out, D3.out⟩⟩
   · have HC : Hid (catOf s = none) := catOf_none fun p n hf he => hno n ⟨hf.2, (HS1.out p n he).2⟩
     have B3 := Lib.hid (B2.out.trans (hb3.mono B2.out.size))
     clear hb3 hno
     go_wp2_with fail
     go_ret3
     exact ⟨B3.out, .inr ⟨HC.out, rfl⟩⟩
 · have HC : Hid (catOf s = none) := catOf_none fun p n hf he => hno p hf.1 (HS1.out p n he).1
   clear hno
   go_wp2_with fail
   refine H20.out.mono ?_
   rintro e w3 ⟨hb3, (⟨u, hu, rfl, _⟩ | ⟨hno, rfl⟩)⟩
   · have B3 := Lib.hid (B2.out.trans (hb3.mono B2.out.size))
     clear hb3 hu
     go_wp2_with fail
     go_ret3
     exact ⟨B3.out, .inr ⟨HC.out, rfl⟩⟩
   · have B3 := Lib.hid (B2.out.trans (hb3.mono B2.out.size))
     clear hb3 hno
     go_wp2_with fail
     go_ret3
     exact ⟨B3.out, .inr ⟨HC.out, rfl⟩⟩
theorem right_any {w : World} {s : List UInt8} (h : Env w) (hn : s.length ≤ 140737488351232) : Calls Tryz.prog 140 #[.string (str s)] w (RetB w (.bool (catOf s).isSome)) := by
 have H8 := Lib.hid (parse_any h hn)
 clear h
 go_enter Tryz.func140, Tryz.ntmps140
 go_wp2_with fail
 refine H8.out.mono ?_
 rintro e w1 ⟨hb1, (⟨p, n, v, hc, rfl, _⟩ | ⟨hc, rfl⟩)⟩
 · have B1 := Lib.hid hb1
   have HC := Lib.hid hc
   clear hb1 hc
   go_wp2_with fail
   go_ret
   exact ⟨by rw [HC.out]; rfl, B1.out⟩
 · have B1 := Lib.hid hb1
   have HC := Lib.hid hc
   clear hb1 hc
   go_wp2_with fail
   go_ret
   exact ⟨by rw [HC.out]; rfl, B1.out⟩
def Ints (w : World) (B : Nat) (A : Option Addr) (zs : List Int) : Prop :=
 (∀ z ∈ zs, -9223372036854775808 ≤ z ∧ z ≤ 9223372036854775807) ∧ (0 < zs.length → ∃ b o, A = some ⟨b, o, none⟩ ∧ b < B ∧ ∀ (k : Nat) (z : Int), zs[k]? = some z → w.cell? ⟨b, o + k, none⟩ = some (.int .i64 z))
theorem Ints.below {w w' : World} {B : Nat} {A : Option Addr} {zs : List Int} (h : Ints w B A zs) (hb : Below B w w') : Ints w' B A zs :=
 ⟨h.1, fun hp => by
  obtain ⟨b, o, hA, hlt, hc⟩ := h.2 hp
  exact ⟨b, o, hA, hlt, fun k c hk => (hb.cell (p := ⟨b, o + k, none⟩) hlt).trans (hc k c hk)⟩⟩
theorem Ints.more {w : World} {B B' : Nat} {A : Option Addr} {zs : List Int} (h : Ints w B A zs) (hB : B ≤ B') : Ints w B' A zs :=
 ⟨h.1, fun hp => by
  obtain ⟨b, o, hA, hlt, hc⟩ := h.2 hp
  exact ⟨b, o, hA, by omega, hc⟩⟩
def PathOk (zs : List Int) : Prop := zs.length ≤ 6 ∧ ∀ z ∈ zs, 0 ≤ z ∧ z ≤ 1048576
instance (zs : List Int) : Decidable (PathOk zs) := inferInstanceAs (Decidable (_ ∧ _))
end Go.Proofs.YtgcbfggoddkhnaaGreatDoor
namespace Go.Proofs.YtgcbfggoddkhnaaGreatDoor
open Go.RowKit
theorem join_snoc : ∀ (ps : List (List UInt8)) (x : List UInt8), ps ≠ [] → joinDot (ps ++ [x]) = joinDot ps ++ 46 :: x
 | [], _, h => absurd rfl h
 | [y], x, _ => rfl
 | y :: z :: r, x, _ => by
  have := join_snoc (z :: r) x (by simp)
  simp only [List.cons_append, joinDot] at this ⊢
  rw [this, List.append_assoc, List.cons_append]
theorem path_one (u : Nat) : pathText [u] = Lib.decDigits u := rfl
theorem path_snoc {p : List Nat} (h : p ≠ []) (u : Nat) : pathText (p ++ [u]) = pathText p ++ 46 :: Lib.decDigits u := by
 unfold pathText
 rw [List.map_append]
 exact join_snoc _ _ (by simpa using h)
theorem path_len : ∀ p : List Nat, (∀ u ∈ p, u ≤ 1048576) → (pathText p).length ≤ 8 * p.length
 | [], _ => by simp [pathText, joinDot]
 | [x], h => by
  have := dec_len7 (h x (by simp))
  rw [path_one]
  simp
  omega
 | x :: y :: r, h => by
  have h1 := dec_len7 (h x (by simp))
  have h2 := path_len (y :: r) (fun u hu => h u (List.mem_cons_of_mem _ hu))
  have e : pathText (x :: y :: r) = Lib.decDigits x ++ 46 :: pathText (y :: r) := rfl
  rw [e]
  simp at h2 ⊢
  omega
def nats (zs : List Int) : List Nat := zs.map Int.toNat
theorem nats_snoc {zs : List Int} {m : Nat} {z : Int} (h : zs[m]? = some z) : nats (zs.take (m + 1)) = nats (zs.take m) ++ [z.toNat] := by
 unfold nats
 rw [List.take_add_one, h, List.map_append]
 rfl
theorem ok_nats {zs : List Int} (h : PathOk zs) (m : Nat) : (pathText (nats (zs.take m))).length ≤ 48 := by
 refine Nat.le_trans (path_len _ fun u hu => ?_) ?_
 · simp only [nats, List.mem_map] at hu
   obtain ⟨z, hz, rfl⟩ := hu
   have := h.2 z (List.mem_of_mem_take hz)
   omega
 · have := h.1
   simp [nats]
   omega
end Go.Proofs.YtgcbfggoddkhnaaGreatDoor
namespace Go.Proofs.YtgcbfggoddkhnaaGreatDoor
open Go.RowKit
def digStr : ByteArray := ⟨#[48, 49, 50, 51, 52, 53, 54, 55, 56, 57]⟩
theorem dig_slice_fin : ∀ d : Fin 10, digStr.extract d.val (d.val + 1) = str [UInt8.ofNat (48 + d.val)] := by decide +kernel
theorem dig_slice {d : Nat} (h : d < 10) (W : World) : (Instr.slice 9 (.string ⟨#[48, 49, 50, 51, 52, 53, 54, 55, 56, 57]⟩) (some (.int .i64 (d : Int))) (some (.int .i64 ((d : Int) + 1))) none).run Tryz.prog W = .ok (.string (str [UInt8.ofNat (48 + d)])) W := by
 have e := run_slice_string (P := Tryz.prog) W 9 digStr .i64 .i64 (d : Int) ((d : Int) + 1) Tryz.underlying9 (by omega) (by omega) (by show (d : Int) + 1 ≤ 10; omega)
 have e1 : ((d : Int) + 1).toNat = d + 1 := by omega
 rw [Int.toNat_natCast, e1, dig_slice_fin ⟨d, h⟩] at e
 exact e
theorem str_add (a b : List UInt8) (h : a.length + b.length ≤ 10000000) (W : World) : (Op.stringOp .add (str a) (str b)).run Tryz.prog W = .ok (.string (str (a ++ b))) W := by
 rw [run_string_add_sum W _ _ (by rw [str_size, str_size]; omega), str_append]
theorem dec_big {v : Nat} (h : 10 ≤ v) : Lib.decDigits v = Lib.decDigits (v / 10) ++ [UInt8.ofNat (48 + v % 10)] := by
 rw [Lib.decDigits, dif_neg (by omega)]
def NumRel (u : Nat) (w : World) (k : Nat) (a s : Value) (wr : World) : Prop :=
 ∃ (v : Nat) (r : List UInt8), v = k ∧ v ≤ 1048576 ∧ a = .int .i64 (v : Int) ∧ s = .string (str r) ∧ Lib.decDigits v ++ r = Lib.decDigits u ∧ w = wr
set_option maxRecDepth 100000 in
theorem num_any {u : Nat} (h : u ≤ 1048576) (w : World) : Calls Tryz.prog 139 #[.int .i64 (u : Int)] w fun e w' => e = .returned (.string (str (Lib.decDigits u))) ∧ w = w' := by
 have HL := Lib.hid (dec_len7 h)
 go_enter Tryz.func139, Tryz.ntmps139
 go_wp2_with fail
 go_loopg [0, 4] u (fun k a s wr => NumRel u w k a s wr)
 case atStart => exact ⟨u, [], rfl, h, rfl, rfl, by simp, rfl⟩
 case round =>
  obtain ⟨v, r, hk, hv, ha, hs, hd, hw⟩ := hrel
  subst hk ha hs hw
  have hlen : (Lib.decDigits v).length + r.length ≤ 7 := by
    have := HL.out
    rw [← hd, List.length_append] at this
    exact this
  have hp := dec_pos v
  by_cases h10 : v < 10
  · have q1 := dig_slice h10
    have q2 := str_add [UInt8.ofNat (48 + v)] r (by simp; omega)
    have HD : Hid ([UInt8.ofNat (48 + v)] ++ r = Lib.decDigits u) := by rw [← hd, Lib.decDigits_one h10]; exact rfl
    obtain ⟨c, hc⟩ : ∃ c, c = str [UInt8.ofNat (48 + v)] := ⟨_, rfl⟩
    rw [← hc] at q1 q2
    rw [HD.out] at q2
    clear hc hd hlen hp
    go_wp2_with fail
    go_ret
    exact ⟨rfl, rfl⟩
  · have hge : 10 ≤ v := by omega
    obtain ⟨d, hde⟩ : ∃ d, d = v % 10 := ⟨_, rfl⟩
    obtain ⟨q, hqe⟩ : ∃ q, q = v / 10 := ⟨_, rfl⟩
    have hd10 : d < 10 := by omega
    have hql : q < v := by omega
    have e1 : (v : Int) % 10 = (d : Int) := by omega
    have e2 : (v : Int) / 10 = (q : Int) := by omega
    have e3 : Int.tmod (v : Int) 10 = (d : Int) := by rw [Int.tmod_eq_emod_of_nonneg (by omega)]; exact e1
    have e4 : Int.tdiv (v : Int) 10 = (q : Int) := by rw [Int.tdiv_eq_ediv_of_nonneg (by omega)]; exact e2
    have q1 := dig_slice hd10
    have q2 := str_add [UInt8.ofNat (48 + d)] r (by simp; omega)
    have HD : Hid (Lib.decDigits q ++ ([UInt8.ofNat (48 + d)] ++ r) = Lib.decDigits u) := by
     rw [Hid, ← hd, dec_big hge, ← hde, ← hqe, List.append_assoc]
    obtain ⟨c, hc⟩ : ∃ c, c = str [UInt8.ofNat (48 + d)] := ⟨_, rfl⟩
    obtain ⟨r2, hr2⟩ : ∃ r2, r2 = [UInt8.ofNat (48 + d)] ++ r := ⟨_, rfl⟩
    rw [← hc, ← hr2] at q2
    rw [← hc] at q1
    rw [← hr2] at HD
    clear hc hr2 hd hlen hp hde hqe h10
    go_wp2_with fail
    go_roundg q
    case measure => omega
    case rel => exact ⟨q, r2, rfl, by omega, rfl, rfl, HD.out, rfl⟩
theorem num26_any {u : Nat} (h : u ≤ 1048576) (w : World) : Calls Tryz.prog 99 #[.int .i64 (u : Int)] w fun e w' => e = .returned (.string (str (Lib.decDigits u))) ∧ w = w' := by
 have H := Lib.hid (num_any h w)
 go_enter Tryz.func99, Tryz.ntmps99
 go_wp2_with (go_at_call 139; refine H.out.mono ?_; rintro e w' ⟨rfl, rfl⟩)
 go_ret
 exact ⟨rfl, rfl⟩
end Go.Proofs.YtgcbfggoddkhnaaGreatDoor
namespace Go.Proofs.YtgcbfggoddkhnaaGreatDoor
open Go.RowKit
def CatOk (zs : List Int) (n : Int) : Prop := PathOk zs ∧ 0 ≤ n ∧ n ≤ 65535
instance (zs : List Int) (n : Int) : Decidable (CatOk zs n) := inferInstanceAs (Decidable (_ ∧ _))
def FitRel (w : World) (zs : List Int) (k : Nat) (i : Value) (wr : World) : Prop :=
 ∃ m, m + k = zs.length ∧ i = .int .i64 (m : Int) ∧ (∀ z ∈ zs.take m, 0 ≤ z ∧ z ≤ 1048576) ∧ Below w.heap.size w wr
set_option maxRecDepth 100000 in
theorem fits_any {w : World} {A : Option Addr} {c : Nat} {zs : List Int} {n : Int} (h : Ints w w.heap.size A zs) (hn : zs.length ≤ 110000000) :
   Calls Tryz.prog 148 #[.agg #[.slice A zs.length c, .int .i64 n]] w (RetB w (.bool (decide (CatOk zs n)))) := by
 have HI := Lib.hid h
 have BA : Hid (Below w.heap.size w (w.alloc (.cells #[.slice A zs.length c, .int .i64 n] 147))) := (Below.refl _ _).alloc (Nat.le_refl _) _
 clear h
 by_cases hn0 : n < 0
 · have HD : Hid (decide (CatOk zs n) = false) := decide_eq_false fun h => by have := h.2.1; omega
   go_enter Tryz.func148, Tryz.ntmps148
   go_wp2_with fail
   go_ret
   exact ⟨by rw [HD.out]; rfl, BA.out⟩
 by_cases hn1 : 65535 < n
 · have HD : Hid (decide (CatOk zs n) = false) := decide_eq_false fun h => by have := h.2.2; omega
   go_enter Tryz.func148, Tryz.ntmps148
   go_wp2_with fail
   go_ret
   exact ⟨by rw [HD.out]; rfl, BA.out⟩
 by_cases h6 : 6 < zs.length
 · have HD : Hid (decide (CatOk zs n) = false) := decide_eq_false fun h => by have := h.1.1; omega
   go_enter Tryz.func148, Tryz.ntmps148
   go_wp2_with fail
   go_ret
   exact ⟨by rw [HD.out]; rfl, BA.out⟩
 have h6' : zs.length ≤ 6 := by omega
 have HR : Hid (0 ≤ n ∧ n ≤ 65535) := by unfold Hid; omega
 go_enter Tryz.func148, Tryz.ntmps148
 go_wp2_with fail
 go_loopg [22] zs.length (fun k i wr => FitRel w zs k i wr)
 case atStart => exact ⟨0, by simp, rfl, by simp, BA.out⟩
 case round =>
   obtain ⟨m, hmk, hi, hall, hb⟩ := hrel
   subst hi
   have HA := Lib.hid hall
   have HB := Lib.hid hb
   clear hall
   cases gk with
   | zero =>
    have hge : zs.length ≤ m := by omega
    have HD : Hid (decide (CatOk zs n) = true) := decide_eq_true ⟨⟨h6', by have := HA.out; rwa [List.take_of_length_le hge] at this⟩, HR.out⟩
    clear hb
    go_wp2_with fail
    go_ret
    exact ⟨by rw [HD.out]; rfl, HB.out⟩
   | succ j =>
    have hm : m < zs.length := by omega
    obtain ⟨z, hz⟩ : ∃ z, zs[m]? = some z := ⟨_, List.getElem?_eq_getElem hm⟩
    obtain ⟨b, o, rfl, hlt, hcells⟩ := HI.out.2 (by omega)
    have cx := (hb.cell (p := ⟨b, o + m, none⟩) hlt).trans (hcells m z hz)
    have HM := Lib.hid hmk
    have HT : Hid (0 ≤ z ∧ z ≤ 1048576 → ∀ x ∈ zs.take (m + 1), 0 ≤ x ∧ x ≤ 1048576) := fun hzr x hx => by
      rw [List.take_add_one, hz] at hx
      rcases List.mem_append.1 hx with h | h
      · exact HA.out x h
      · simp at h
        subst h
        exact hzr
    have HZ := Lib.hid (List.mem_of_getElem? hz)
    clear hmk hz hcells hb
    by_cases z0 : z < 0
    · have HD : Hid (decide (CatOk zs n) = false) := decide_eq_false fun h => by have := h.1.2 z HZ.out; omega
      go_wp2_with fail
      go_ret
      exact ⟨by rw [HD.out]; rfl, HB.out⟩
    · by_cases z1 : 1048576 < z
      · have HD : Hid (decide (CatOk zs n) = false) := decide_eq_false fun h => by have := h.1.2 z HZ.out; omega
        go_wp2_with fail
        go_ret
        exact ⟨by rw [HD.out]; rfl, HB.out⟩
      · have HR2 : Hid (0 ≤ z ∧ z ≤ 1048576) := by unfold Hid; omega
        go_wp2_with fail
        go_roundg j
        case measure => omega
        case rel => exact ⟨m + 1, by have := HM.out; omega, by go_num, HT.out HR2.out, HB.out⟩
def TextRel (zs : List Int) (W0 : World) (k : Nat) (s i : Value) (wr : World) : Prop :=
 ∃ m, m + k = zs.length ∧ i = .int .i64 (m : Int) ∧ s = .string (str (pathText (nats (zs.take m)))) ∧ W0 = wr
set_option maxRecDepth 100000 in
theorem text_any {w : World} {A : Option Addr} {c : Nat} {zs : List Int} {n : Int} (h : Ints w w.heap.size A zs) (hp : CatOk zs n) :
  Calls Tryz.prog 149 #[.agg #[.slice A zs.length c, .int .i64 n]] w (RetB w (.string (str (catText (nats zs) n.toNat)))) := by
 have BA : Hid (Below w.heap.size w (w.alloc (.cells #[.slice A zs.length c, .int .i64 n] 147))) := (Below.refl _ _).alloc (Nat.le_refl _) _
 have HI := Lib.hid (h.below BA.out)
 have HP := Lib.hid hp
 have hlen := hp.1.1
 obtain ⟨k, hk⟩ := Int.eq_ofNat_of_zero_le hp.2.1
 have hk1 : k ≤ 65535 := by have := hp.2.2; omega
 subst hk
 rw [Int.toNat_natCast]
 have HL := Lib.hid (dec_len7 (u := k) (by omega))
 clear h hp
 go_enter Tryz.func149, Tryz.ntmps149
 go_wp2_with fail
 obtain ⟨W0, hW0⟩ : ∃ W0, W0 = w.alloc (.cells #[.slice A zs.length c, .int .i64 (k : Int)] 147) := ⟨_, rfl⟩
 have c1 : W0.cell? ⟨w.heap.size, 1, none⟩ = some (.int .i64 (k : Int)) := by rw [hW0]; simp
 rw [← hW0] at BA HI ⊢
 clear hW0
 go_loopg [3, 9] zs.length (fun k s i wr => TextRel zs W0 k s i wr)
 case atStart => exact ⟨0, by simp, rfl, rfl, rfl⟩
 case round =>
  obtain ⟨m, hmk, hi, hs, hw⟩ := hrel
  subst hi hs hw
  have hl48 := ok_nats HP.out.1 m
  cases gk with
  | zero =>
   have hge : zs.length ≤ m := by omega
   have HT : Hid (zs.take m = zs) := List.take_of_length_le hge
   obtain ⟨l, hle⟩ : ∃ l, l = pathText (nats (zs.take m)) := ⟨_, rfl⟩
   have HX : Hid (l ++ [47] ++ Lib.decDigits k = catText (nats zs) k) := by rw [Hid, hle, HT.out]; simp [catText]
   rw [← hle] at hl48 ⊢
   clear hle hmk
   have q1 : ∀ W, (Op.stringOp .add (str l) ⟨#[47]⟩).run Tryz.prog W = .ok (.string (str (l ++ [47]))) W := str_add l [47] (by simp; omega)
   have q2 := str_add (l ++ [47]) (Lib.decDigits k) (by have := HL.out; simp; omega)
   rw [HX.out] at q2
   have H26 := Lib.hid (num26_any (u := k) (by omega) W0)
   obtain ⟨s1, h1⟩ : ∃ s1, s1 = str l := ⟨_, rfl⟩
   obtain ⟨s2, h2⟩ : ∃ s2, s2 = str (l ++ [47]) := ⟨_, rfl⟩
   obtain ⟨s3, h3⟩ : ∃ s3, s3 = str (Lib.decDigits k) := ⟨_, rfl⟩
   rw [← h1, ← h2] at q1
   rw [← h2, ← h3] at q2
   rw [← h3] at H26
   rw [← h1]
   clear h1 h2 h3
   go_wp2_with (go_at_call 99; refine H26.out.mono ?_; rintro e w' ⟨rfl, rfl⟩)
   go_ret
   exact ⟨rfl, BA.out⟩
  | succ j =>
   have hm : m < zs.length := by omega
   obtain ⟨z, hz⟩ : ∃ z, zs[m]? = some z := ⟨_, List.getElem?_eq_getElem hm⟩
   obtain ⟨b, o, rfl, hlt, hcells⟩ := HI.out.2 (by omega)
   have cx := hcells m z hz
   have hzr := HP.out.1.2 z (List.mem_of_getElem? hz)
   obtain ⟨u, hu⟩ := Int.eq_ofNat_of_zero_le hzr.1
   subst hu
   have hu1 : u ≤ 1048576 := by omega
   have HL2 := Lib.hid (dec_len7 hu1)
   have HM := Lib.hid hmk
   have HS := Lib.hid (nats_snoc hz)
   rw [Int.toNat_natCast] at HS
   have H26 := Lib.hid (num26_any hu1 W0)
   by_cases h0 : m = 0
   · subst h0
     have HT : Hid (pathText (nats (zs.take (0 + 1))) = Lib.decDigits u) := by rw [Hid, HS.out]; rfl
     have cx0 : W0.cell? ⟨b, o, none⟩ = some (.int .i64 (u : Int)) := by simpa using cx
     have q1 : ∀ W, (Op.stringOp .add (str (pathText (nats (zs.take 0)))) (str (Lib.decDigits u))).run Tryz.prog W = .ok (.string (str (Lib.decDigits u))) W := str_add [] (Lib.decDigits u) (by have := HL2.out; simp; omega)
     obtain ⟨s1, h1⟩ : ∃ s1, s1 = str (pathText (nats (zs.take 0))) := ⟨_, rfl⟩
     obtain ⟨s2, h2⟩ : ∃ s2, s2 = str (Lib.decDigits u) := ⟨_, rfl⟩
     rw [← h1, ← h2] at q1
     rw [← h2] at H26
     rw [← h1]
     have HX := Lib.hid h2
     clear h1 h2 hz hmk hcells HS cx
     go_wp2_with (go_at_call 99; refine H26.out.mono ?_; rintro e w' ⟨rfl, rfl⟩)
     go_roundg j
     case measure => omega
     case rel => exact ⟨0 + 1, by have := HM.out; omega, by go_num, by rw [HT.out, HX.out], rfl⟩
   · have hpos : 0 < m := by omega
     obtain ⟨l, hle⟩ : ∃ l, l = pathText (nats (zs.take m)) := ⟨_, rfl⟩
     have HT : Hid (pathText (nats (zs.take (m + 1))) = l ++ [46] ++ Lib.decDigits u) := by
      rw [Hid, HS.out, path_snoc (by
       intro e
       have h2 : (nats (zs.take m)).length = m := by simp [nats]; omega
       rw [e] at h2
       simp at h2
       omega), hle]
      simp
     rw [← hle] at hl48 ⊢
     clear hle hz hmk hcells HS h0
     have q1 : ∀ W, (Op.stringOp .add (str l) ⟨#[46]⟩).run Tryz.prog W = .ok (.string (str (l ++ [46]))) W := str_add l [46] (by simp; omega)
     have q2 := str_add (l ++ [46]) (Lib.decDigits u) (by have := HL2.out; simp; omega)
     obtain ⟨s1, h1⟩ : ∃ s1, s1 = str l := ⟨_, rfl⟩
     obtain ⟨s2, h2⟩ : ∃ s2, s2 = str (l ++ [46]) := ⟨_, rfl⟩
     obtain ⟨s3, h3⟩ : ∃ s3, s3 = str (Lib.decDigits u) := ⟨_, rfl⟩
     obtain ⟨s4, h4⟩ : ∃ s4, s4 = str (l ++ [46] ++ Lib.decDigits u) := ⟨_, rfl⟩
     rw [← h1, ← h2] at q1
     rw [← h2, ← h3, ← h4] at q2
     rw [← h3] at H26
     rw [← h1]
     have HX := Lib.hid h4
     clear h1 h2 h3 h4
     go_wp2_with (go_at_call 99; refine H26.out.mono ?_; rintro e w' ⟨rfl, rfl⟩)
     go_roundg j
     case measure => omega
     case rel => exact ⟨m + 1, by have := HM.out; omega, by go_num, by rw [HT.out, HX.out], rfl⟩
end Go.Proofs.YtgcbfggoddkhnaaGreatDoor
namespace Go.Proofs.YtgcbfggoddkhnaaGreatDoor
open Go.RowKit
def Pair (W : World) (g : Nat) (v : Value) (n : Int) : Prop := W.heap[g]? = some (.cells #[v, .int .i64 n] 147 (0, 0))
theorem Pair.lt {W : World} {g : Nat} {v : Value} {n : Int} (h : Pair W g v n) : g < W.heap.size := (Array.getElem?_eq_some_iff.1 h).1
theorem Pair.cell0 {W : World} {g : Nat} {v : Value} {n : Int} (h : Pair W g v n) : W.cell? ⟨g, 0, none⟩ = some v := by simp [World.cell?, show W.heap[g]? = _ from h]
theorem Pair.cell1 {W : World} {g : Nat} {v : Value} {n : Int} (h : Pair W g v n) : W.cell? ⟨g, 1, none⟩ = some (.int .i64 n) := by simp [World.cell?, show W.heap[g]? = _ from h]
theorem Pair.frozen {W : World} {g : Nat} {v : Value} {n : Int} (h : Pair W g v n) (k : Nat) : W.frozen? ⟨g, k, none⟩ = false := by simp [World.frozen?, show W.heap[g]? = _ from h]
theorem Pair.kept {W W' : World} {row : Option Nat} {g : Nat} {v : Value} {n : Int} (h : Pair W g v n) (hg : W.grownBy W' row) (hne : some g ≠ row) : Pair W' g v n := (hg.block g h.lt hne).trans h
theorem Pair.alloc {W : World} {g : Nat} {v : Value} {n : Int} (h : Pair W g v n) (o : Obj) : Pair (W.alloc o) g v n := h.kept (World.grownBy_alloc W o none) (by simp)
theorem Pair.new (W : World) (v : Value) (n : Int) : Pair (W.alloc (.cells #[v, .int .i64 n] 147)) W.heap.size v n := World.alloc_heap_new W _
theorem grown_setCell (W : World) (p : Addr) (v : Value) : W.grownBy (W.setCell p v) (some p.block) :=
 ⟨rfl, rfl, rfl, (KeepsWalks.setCell W _ v).size, fun k _ hk => Below.heap_setCell _ _ _ k (fun e => hk (by rw [e]))⟩
theorem Pair.set0 {W : World} {g : Nat} {v : Value} {n : Int} (h : Pair W g v n) (v' : Value) : Pair (W.setCell ⟨g, 0, none⟩ v') g v' n := by
 obtain ⟨hlt, hk⟩ := Array.getElem?_eq_some_iff.1 h
 show (W.heap.modify g _)[g]? = _
 rw [Array.getElem?_eq_getElem (by rw [Array.size_modify]; exact hlt), Array.getElem_modify_self, hk]
 rfl
theorem Pair.set1 {W : World} {g : Nat} {v : Value} {n : Int} (h : Pair W g v n) (n' : Int) : Pair (W.setCell ⟨g, 1, none⟩ (.int .i64 n')) g v n' := by
 obtain ⟨hlt, hk⟩ := Array.getElem?_eq_some_iff.1 h
 show (W.heap.modify g _)[g]? = _
 rw [Array.getElem?_eq_getElem (by rw [Array.size_modify]; exact hlt), Array.getElem_modify_self, hk]
 rfl
theorem wpList_append_num {w : World} {ops : Array Oper} {rest : List Oper} {o : Oper} {a : Act} {Q : Exit → Act → World → Prop} (hgd : o.guard = none) (s x : Operand)
  (ho : o.op = .call { callee := .builtin .append, args := #[s, x], argTypes := #[43, 43] }) (base : Nat) (v : Value) (us : List Nat) (hs : a.eval s = v)
  (hown : NumRow w base v us) (ad : Addr) (u : Nat) (hxe : a.eval x = .slice (some ad) 1 1) (hc : ∀ j y, [Value.int .i64 (u : Int)][j]? = some y → w.cell? (ad.add j) = some y)
  (hn : us.length + 1 ≤ 110000000) (hbase : base ≤ w.heap.size)
  (h : ∀ v' w', NumRow w' base v' (us ++ [u]) → w.grownBy w' v.ownBlock → wpList Tryz.prog ops Q rest (a.put o.dst v') w') : wpList Tryz.prog ops Q (o :: rest) a w := by
 obtain ⟨i0, hi, hz0, hz1, hz2⟩ := info_parts Tryz.info3
 refine wpList_append_own w hgd s x 43 ho base 3 i0 _ 1 8 Tryz.underlying43 hi hz0 hz1 hz2 rfl (by decide) v us.length _ hs hown ad 1 1 [.int .i64 (u : Int)] hxe rfl hc (by simp [Value.oneCell']) (by unfold maxLen; omega) (by omega) hbase ?_
 intro v' w' h1 h2 _
 exact h v' w' (by unfold NumRow numCells; rw [List.map_append, List.length_append]; exact h1) h2
def ints (p : List Nat) : List Int := p.map fun u : Nat => (u : Int)
theorem ints_length (p : List Nat) : (ints p).length = p.length := by simp [ints]
theorem nats_ints (p : List Nat) : nats (ints p) = p := by simp [nats, ints, Function.comp_def]
theorem ok_ints {p : List Nat} {n : Nat} : CatOk (ints p) (n : Int) ↔ Fits p n := by
 constructor
 · rintro ⟨⟨h1, h2⟩, _, h4⟩
   refine ⟨⟨by rwa [ints_length] at h1, fun u hu => ?_⟩, by omega⟩
   have := h2 (u : Int) (List.mem_map.2 ⟨u, hu, rfl⟩)
   omega
 · rintro ⟨⟨h1, h2⟩, h3⟩
   refine ⟨⟨by rwa [ints_length], fun z hz => ?_⟩, by omega, by omega⟩
   obtain ⟨u, hu, rfl⟩ := List.mem_map.1 hz
   have := h2 u hu
   omega
theorem NumRow.ints {w : World} {B : Nat} {v : Value} {p : List Nat} (h : NumRow w B v p) (hp : ∀ u ∈ p, u < 100000000) : ∃ A c, v = .slice A p.length c ∧ Ints w w.heap.size A (ints p) := by
 have h0 : w.ownsRow B 3 1 v p.length (numCells p) := h
 have hr : ∀ z ∈ YtgcbfggoddkhnaaGreatDoor.ints p, -9223372036854775808 ≤ z ∧ z ≤ 9223372036854775807 := fun z hz => by
   obtain ⟨u, hu, rfl⟩ := List.mem_map.1 hz
   have := hp u hu
   omega
 rcases h0.2 with ⟨rfl, he⟩ | ⟨g, cap, cur, rfl, hb, hh, hcc⟩
 · exact ⟨none, 0, by rw [he], hr, fun h => by rw [ints_length] at h; omega⟩
 · refine ⟨_, cap, rfl, hr, fun _ => ⟨g, 0, rfl, (h0.lt g rfl).2, fun k z hk => ?_⟩⟩
   obtain ⟨u, hu, rfl⟩ : ∃ u : Nat, p[k]? = some u ∧ z = (u : Int) := by
    simp only [YtgcbfggoddkhnaaGreatDoor.ints, List.getElem?_map, Option.map_eq_some_iff] at hk
    obtain ⟨u, h1, h2⟩ := hk
    exact ⟨u, h1, h2.symm⟩
   have := h0.cells (g := g) rfl k (.int .i64 (u : Int)) (by simp [numCells, hu])
   rwa [Go.WideShapes.add_plain] at this
def RetGet (w : World) (s : List UInt8) (e : Ending) (w' : World) : Prop :=
 Below w.heap.size w w' ∧ ((∃ p n v, catOf s = some (p, n) ∧ e = .returned (.tuple #[.agg #[v, .int .i64 (n : Int)], .bool true]) ∧ NumRow w' w.heap.size v p) ∨
  (catOf s = none ∧ e = .returned (.tuple #[.agg #[.slice none 0 0, .int .i64 0], .bool false])))
def Gath (w : World) (p : List Nat) (n : Int) (W : World) : Prop :=
 Pair W w.heap.size (.slice none 0 0) 0 ∧ (∃ v, Pair W (w.heap.size + 1) v n ∧ NumRow W (w.heap.size + 2) v p) ∧ Below w.heap.size w W ∧ w.heap.size + 2 ≤ W.heap.size
def GetRel (w : World) (s : List UInt8) (k : Nat) (a b i : Value) (wr : World) : Prop :=
 ∃ (m n d : Nat) (p : List Nat), m + k = s.length ∧ a = .int .i64 (n : Int) ∧ b = .int .i64 (d : Int) ∧ i = .int .i64 (m : Int) ∧ scan (s.drop m) p n d = scan s [] 0 0 ∧ d ≤ 8 ∧ n < 10 ^ d ∧
  p.length ≤ m ∧ (∀ u ∈ p, u < 100000000) ∧ Gath w p 0 wr
theorem str_index {s : List UInt8} {S : ByteArray} {m : Nat} {x : UInt8} (hS : S = str s) (h : s[m]? = some x) (W : World) : (Instr.index 9 (.string S) (.int .i64 (m : Int))).run Tryz.prog W = .ok (.int .u8 (x.toNat : Int)) W := by
 subst hS
 obtain ⟨hm, hx⟩ := List.getElem?_eq_some_iff.1 h
 rw [run_index_string W 9 _ .i64 _ Tryz.underlying9, dif_pos ⟨by omega, by rw [str_size]; omega⟩]
 simp only [Int.toNat_natCast]
 congr 3
 rw [← hx]
 rfl
theorem drop_at {s : List UInt8} {m : Nat} {x : UInt8} (h : s[m]? = some x) : s.drop m = x :: s.drop (m + 1) := by
 obtain ⟨hm, hx⟩ := List.getElem?_eq_some_iff.1 h
 rw [← hx]
 exact List.drop_eq_getElem_cons hm
theorem gath_start (w : World) : Gath w [] 0 ((w.alloc (.cells #[.slice none 0 0, .int .i64 0] 147)).alloc (.cells #[.slice none 0 0, .int .i64 0] 147)) := by
 have h1 := Pair.new (w.alloc (.cells #[.slice none 0 0, .int .i64 0] 147)) (.slice none 0 0) 0
 rw [World.size_alloc] at h1
 exact ⟨(Pair.new w _ _).alloc _, ⟨_, h1, World.ownsRow_nil _ _ _ _⟩, ((Below.refl _ _).alloc (Nat.le_refl _) _).alloc (by simp) _, by simp⟩
theorem pow_le8 {d n : Nat} (h : n < 10 ^ d) (hd : d ≤ 8) : n < 100000000 := Nat.lt_of_lt_of_le h (Nat.pow_le_pow_right (by omega) hd)
theorem gath_append {w W w1 : World} {p : List Nat} {u : Nat} {n : Int} {v v' : Value} {tmp : Obj} (h0 : Pair W w.heap.size (.slice none 0 0) 0) (h1 : Pair W (w.heap.size + 1) v n) (hrow : NumRow W (w.heap.size + 2) v p) (hb : Below w.heap.size w W) (hsz : w.heap.size + 2 ≤ W.heap.size)
   (hown : NumRow w1 (w.heap.size + 2) v' (p ++ [u])) (hgrow : (W.alloc tmp).grownBy w1 v.ownBlock) : Pair w1 (w.heap.size + 1) v n ∧ Gath w (p ++ [u]) n (w1.setCell ⟨w.heap.size + 1, 0, none⟩ v') := by
 have hne : ∀ k, k < w.heap.size + 2 → some k ≠ v.ownBlock := fun k hk e => by
   have := (World.ownsRow.lt hrow k e.symm).1
   omega
 have hne' : ∀ k, k < w.heap.size + 2 → some k ≠ v'.ownBlock := fun k hk e => by
   have := (World.ownsRow.lt hown k e.symm).1
   omega
 have p1 := (h1.alloc tmp).kept hgrow (hne _ (by omega))
 have p0 := (h0.alloc tmp).kept hgrow (hne _ (by omega))
 refine ⟨p1, p0.kept (grown_setCell w1 _ v') (by intro e; injection e with e; simp at e), ⟨v', p1.set0 v', World.ownsRow.kept hown (grown_setCell w1 _ v') (.inr fun e => hne' _ (by simp) e.symm)⟩, ?_, ?_⟩
 · refine ((hb.alloc hb.size tmp).grown hgrow (by have := hb.size; simp; omega) fun j e => ?_).setCell (p := ⟨w.heap.size + 1, 0, none⟩) (by simp) v'
   have := (World.ownsRow.lt hrow j e).1
   omega
 · have h2 := hgrow.size
   have h3 := (grown_setCell w1 ⟨w.heap.size + 1, 0, none⟩ v').size
   rw [World.size_alloc] at h2
   omega
end Go.Proofs.YtgcbfggoddkhnaaGreatDoor
namespace Go.Proofs.YtgcbfggoddkhnaaGreatDoor
open Go.RowKit Go.Shelf
def Fine (w : World) (e : Ending) (w' : World) : Prop := e = .returned (.bool true) ∧ Below w.heap.size w w'
def Strs (w : World) (B : Nat) (A : Option Addr) (l : List (List UInt8)) : Prop :=
 0 < l.length → ∃ b o, A = some ⟨b, o, none⟩ ∧ b < B ∧ ∀ (k : Nat) (x : List UInt8), l[k]? = some x → w.cell? ⟨b, o + k, none⟩ = some (.string (str x))
theorem Strs.below {w w' : World} {B : Nat} {A : Option Addr} {l : List (List UInt8)} (h : Strs w B A l) (hb : Below B w w') : Strs w' B A l := fun hp => by
 obtain ⟨b, o, hA, hlt, hc⟩ := h hp
 exact ⟨b, o, hA, hlt, fun k c hk => (hb.cell (p := ⟨b, o + k, none⟩) hlt).trans (hc k c hk)⟩
theorem Strs.more {w : World} {B B' : Nat} {A : Option Addr} {l : List (List UInt8)} (h : Strs w B A l) (hB : B ≤ B') : Strs w B' A l := fun hp => by
 obtain ⟨b, o, hA, hlt, hc⟩ := h hp
 exact ⟨b, o, hA, by omega, hc⟩
def strCellsOf (R : List (List UInt8)) : List Value := R.map fun x => Value.string (str x)
def StrRow (w : World) (B : Nat) (v : Value) (R : List (List UInt8)) : Prop := w.ownsRow B 9 1 v R.length (strCellsOf R)
theorem StrRow.below {w w' : World} {B : Nat} {v : Value} {R : List (List UInt8)} (h : StrRow w B v R) (hb : Below w.heap.size w w') : StrRow w' B v R :=
 World.ownsRow.kept (row := Option.none) h (grown_of_below hb) (by cases v.ownBlock <;> simp)
theorem StrRow.slice {w : World} {B : Nat} {v : Value} {R : List (List UInt8)} (h : StrRow w B v R) : ∃ A c, v = .slice A R.length c := by
 have h0 : w.ownsRow B 9 1 v R.length (strCellsOf R) := h
 rcases h0.2 with ⟨rfl, he⟩ | ⟨g, cap, cur, rfl, _⟩
 · exact ⟨none, 0, by rw [he]⟩
 · exact ⟨_, _, rfl⟩
theorem StrRow.strs {w : World} {B : Nat} {v : Value} {R : List (List UInt8)} (h : StrRow w B v R) : ∃ A c, v = .slice A R.length c ∧ Strs w w.heap.size A R := by
 have h0 : w.ownsRow B 9 1 v R.length (strCellsOf R) := h
 rcases h0.2 with ⟨rfl, he⟩ | ⟨g, cap, cur, rfl, hb, hh, hcc⟩
 · exact ⟨none, 0, by rw [he], fun h => by omega⟩
 · refine ⟨_, cap, rfl, fun _ => ⟨g, 0, rfl, (h0.lt g rfl).2, fun k x hk => ?_⟩⟩
   have := h0.cells (g := g) rfl k (.string (str x)) (by simp [strCellsOf, hk])
   rwa [Go.WideShapes.add_plain] at this
theorem Tryz.info9 : (Tryz.prog.info? 9).map (fun i => (i.zero, i.size, i.bytes)) = some (some (.string ⟨#[]⟩), 1, 16) := by kernel_rfl
theorem wpList_append_one {w : World} {ops : Array Oper} {rest : List Oper} {o : Oper} {a : Act} {Q : Exit → Act → World → Prop} (hgd : o.guard = none) (s x : Operand)
  (ho : o.op = .call { callee := .builtin .append, args := #[s, x], argTypes := #[26, 26] }) (base : Nat) (v : Value) (R : List (List UInt8)) (hs : a.eval s = v)
  (hown : StrRow w base v R) (ad : Addr) (u : List UInt8) (hxe : a.eval x = .slice (some ad) 1 1) (hc : ∀ j y, [Value.string (str u)][j]? = some y → w.cell? (ad.add j) = some y)
  (hn : R.length + 1 ≤ 100000001) (hbase : base ≤ w.heap.size)
  (h : ∀ v' w', StrRow w' base v' (R ++ [u]) → Below base w w' → wpList Tryz.prog ops Q rest (a.put o.dst v') w') : wpList Tryz.prog ops Q (o :: rest) a w := by
 obtain ⟨i0, hi, hz0, hz1, hz2⟩ := info_parts Tryz.info9
 refine wpList_append_own w hgd s x 26 ho base 9 i0 _ 1 16 Tryz.underlying26 hi hz0 hz1 hz2 rfl (by decide) v R.length _ hs hown ad 1 1 [.string (str u)] hxe rfl hc (by simp [Value.oneCell']) (by unfold maxLen; omega) (by omega) hbase ?_
 intro v' w' h1 h2 _
 refine h v' w' (by unfold StrRow strCellsOf; rw [List.map_append, List.length_append]; exact h1) ((Below.refl base w).grown h2 hbase fun k e => ?_)
 exact (World.ownsRow.lt hown k e).1
theorem cat_len {x : List UInt8} (h : (catOf x).isSome = true) : x.length ≤ 140737488351232 := by
 cases hc : catOf x with
 | none => rw [hc] at h; cases h
 | some p =>
  obtain ⟨⟨⟨hl, hp⟩, hn⟩, hx⟩ := catOf_iff.1 hc
  have h1 := path_len p.1 hp
  have h2 := dec_len7 (u := p.2) (by omega)
  rw [hx]
  unfold catText
  rw [List.length_append, List.length_cons]
  omega
end Go.Proofs.YtgcbfggoddkhnaaGreatDoor
