/- Lemmas for the law: Zc, Zd, Ze, Zf. -/
import Derived.Test.YtgcbfggoddkhnaaGreatDoorM16
import Derived.StillTailTactics
import Derived.ArgAppend
import Derived.Test.YtgcbfggoddkhnaaGreatDoorM15
import Derived.Maps.AppendAt
namespace Go.Proofs.YtgcbfggoddkhnaaGreatDoor
open Go.RowKit
theorem own_cells {base : Nat} {e : TypeId} {size g n cap : Nat} : ∀ (vs : List Value) {w : World} {xs : List Value} {j : Nat}, w.ownsRow base e size (.slice (some ⟨g, 0, none⟩) n cap) n xs → j + vs.length ≤ xs.length →
  (w.setCells g j vs).ownsRow base e size (.slice (some ⟨g, 0, none⟩) n cap) n (xs.take j ++ vs ++ xs.drop (j + vs.length))
 | [], w, xs, j, h, _ => by
  simp only [List.append_nil, List.length_nil, Nat.add_zero, List.take_append_drop]
  exact h
 | v :: r, w, xs, j, h, hj => by
  have h1 := (World.ownsRow.stored h j v).1
  have hlen : j < xs.length := by simp at hj; omega
  have h2 := own_cells r (w := w.setCell ⟨g, j, none⟩ v) (j := j + 1) h1 (by rw [List.length_set]; simp at hj; omega)
  have e : (xs.set j v).take (j + 1) ++ r ++ (xs.set j v).drop (j + 1 + r.length) = xs.take j ++ (v :: r) ++ xs.drop (j + (v :: r).length) := by
   rw [List.take_add_one, List.getElem?_set_self hlen, List.take_set_of_le (Nat.le_refl _), List.drop_set_of_lt (by omega)]
   simp
   congr 1
   omega
  rw [e] at h2
  exact h2
theorem own_less {base : Nat} {e : TypeId} {size g n cap : Nat} {w : World} {xs : List Value} (h : w.ownsRow base e size (.slice (some ⟨g, 0, none⟩) n cap) n xs) {k : Nat} (hk : k ≤ n) : w.ownsRow base e size (.slice (some ⟨g, 0, none⟩) k cap) k (xs.take (k * size)) := by
 have hkn : k * size ≤ n * size := Nat.mul_le_mul_right _ hk
 refine ⟨by rw [List.length_take, h.1]; omega, .inr ?_⟩
 rcases h.2 with ⟨hx, _⟩ | ⟨g', cap', cur, hx, hb, hh, hle, hm, hsz, ht⟩
 · cases hx
 · injection hx with h1 h2 h3
   injection h1 with h1
   injection h1 with h1
   subst h1 h3
   refine ⟨g, cap, cur, rfl, hb, hh, by omega, hm, hsz, ?_⟩
   rw [← ht, List.take_take, Nat.min_eq_left hkn]
set_option maxRecDepth 100000 in
theorem Tryz.size85 : ∀ w, (Go.sizeOf 85).run Tryz.prog w = .ok 3 w := fun _ => by kernel_rfl
set_option maxRecDepth 100000 in
theorem Tryz.elem24 : Tryz.prog.elem 24 = 85 := by kernel_rfl
set_option maxRecDepth 100000 in
theorem Tryz.under24e : Tryz.prog.underlying 24 = some (.slice (Tryz.prog.elem 24)) := by kernel_rfl
set_option maxRecDepth 100000 in
theorem sliceK_to {b N c m : Nat} (hm : m ≤ N) (hc : N ≤ c) (W : World) : (Instr.slice 24 (.slice (some ⟨b, 0, none⟩) N c) none (some (.int .i64 (m : Int))) none).run Tryz.prog W = .ok (.slice (some ⟨b, 0, none⟩) m c) W := by
 rw [run_slice_h W 24 _ _ _ Tryz.under24e .i64 _ (by omega) (by omega), Tryz.elem24, Tryz.size85]
 simp [Result.andThen, sliced, Addr.add]
set_option maxRecDepth 100000 in
theorem sliceK_from {b N c m r : Nat} (hm : N = m + (r + 1)) (hc : N ≤ c) : ∃ o', (0 < r → o' = (m + 1) * 3) ∧ ∀ W : World, (Instr.slice 24 (.slice (some ⟨b, 0, none⟩) N c) (some (.int .i64 ((m : Int) + 1))) none none).run Tryz.prog W = .ok (.slice (some ⟨b, o', none⟩) r (c - (m + 1))) W := by
 have e : (m : Int) + 1 = ((m + 1 : Nat) : Int) := by omega
 have er : N - (m + 1) = r := by omega
 by_cases hne : c = m + 1
 · refine ⟨0, fun h => by omega, fun W => ?_⟩
   rw [e, run_slice_l W 24 _ _ _ Tryz.under24e .i64 _ (by omega) (by omega), Tryz.elem24, Tryz.size85]
   simp only [Int.toNat_natCast, er, Result.andThen, sliced]
   simp [hne]
 · refine ⟨(m + 1) * 3, fun _ => rfl, fun W => ?_⟩
   rw [e, run_slice_l W 24 _ _ _ Tryz.under24e .i64 _ (by omega) (by omega), Tryz.elem24, Tryz.size85]
   simp only [Int.toNat_natCast, er, Result.andThen, sliced]
   simp [hne, Addr.add]
set_option maxRecDepth 100000 in
theorem sliceK_last {b M c m r : Nat} (hM : M + 1 ≤ c) (hm : M = m + r) (W : World) : (Instr.slice 24 (.slice (some ⟨b, 0, none⟩) M c) (some (.int .i64 ((m : Int) + (r : Int)))) (some (.int .i64 ((M : Int) + 1))) none).run Tryz.prog W = .ok (.slice (some ⟨b, M * 3, none⟩) 1 (c - M)) W := by
 have e : (m : Int) + (r : Int) = ((M : Nat) : Int) := by omega
 have e1 : (M : Int) + 1 = ((M + 1 : Nat) : Int) := by omega
 rw [e, e1, run_slice_lh W 24 _ _ _ Tryz.under24e .i64 .i64 _ _ (by omega) (by omega) (by omega), Tryz.elem24, Tryz.size85]
 have hne : ¬ c = M := by omega
 simp only [Int.toNat_natCast, Result.andThen, sliced]
 by_cases h0 : M = 0
 · subst h0
   simp [Addr.add, hne]
 · have h3 : ¬ M * 3 = 0 := by omega
   simp [Addr.add, hne, h3]
set_option maxRecDepth 100000 in
theorem sliceK_mid {b M c m : Nat} (hM : M + 1 ≤ c) (hm : m ≤ M) : ∃ v, ∀ W : World, (Instr.slice 24 (.slice (some ⟨b, 0, none⟩) (M + 1) c) (some (.int .i64 (m : Int))) (some (.int .i64 ((m : Int) + 1))) (some (.int .i64 ((M : Int) + 1)))).run Tryz.prog W = .ok v W := by
 refine ⟨sliced (some ⟨b, 0, none⟩) ((m : Int)).toNat ((m : Int) + 1).toNat ((M : Int) + 1).toNat 3, fun W => ?_⟩
 rw [run_slice_lhm W 24 _ _ _ Tryz.under24e .i64 .i64 .i64 _ _ _ (by omega) (by omega) (by omega) (by omega), Tryz.elem24, Tryz.size85]
 rfl
set_option maxRecDepth 100000 in
theorem clear_one (W : World) (ty : TypeId) (b o c : Nat) (hc : ∀ j, j < 3 → (W.cell? ⟨b, o + j, none⟩).isSome = true) (hf : ∀ j, j < 3 → W.frozen? ⟨b, o + j, none⟩ = false) :
  (Builtin.clear_ #[24] ty #[.slice (some ⟨b, o, none⟩) 1 c]).run Tryz.prog W = .ok (.tuple #[]) (W.setCells b o [.int .i64 0, .int .i64 0, .int .i64 0]) := by
 have hst := run_storeCells_cells (P := Tryz.prog) b o [.int .i64 0, .int .i64 0, .int .i64 0] 0 W (by simpa using hc) (by simpa using hf) (by intro v hv'; simp at hv'; subst hv'; rfl)
 simp only [Nat.add_zero] at hst
 have hz : (Builtin.zeroCells (Value.agg #[.int .i64 0, .int .i64 0, .int .i64 0]).cells 1).toList = [.int .i64 0, .int .i64 0, .int .i64 0] := by kernel_rfl
 simp [Builtin.clear_, run_underlying Tryz.underlying24, hz, hst]
theorem kp_setCells (b : Nat) : ∀ (vs : List Value) (o : Nat) {a w : World}, Tp.Kp (fun x => x = b) a w → Tp.Kp (fun x => x = b) a (w.setCells b o vs)
 | [], _, _, _, h => h
 | v :: r, o, _, _, h => by
  rw [World.setCells]
  exact kp_setCells b r (o + 1) (h.setCell (p := ⟨b, o, none⟩) (fun _ => rfl) v)
theorem kidCells_take (l : List Kd) (m : Nat) : (kidCells l).take (m * 3) = kidCells (l.take m) := by
 induction l generalizing m with
 | nil => simp [kidCells]
 | cons x r ih =>
  cases m with
  | zero => simp [kidCells]
  | succ m => rw [show (m + 1) * 3 = m * 3 + 1 + 1 + 1 by omega]; simp [kidCells, ih]
theorem kidCells_drop (l : List Kd) (m : Nat) : (kidCells l).drop (m * 3) = kidCells (l.drop m) := by
 induction l generalizing m with
 | nil => simp [kidCells]
 | cons x r ih =>
  cases m with
  | zero => simp [kidCells]
  | succ m => rw [show (m + 1) * 3 = m * 3 + 1 + 1 + 1 by omega]; simp [kidCells, ih]
theorem wpList_append_room {P : Program} {ops : Array Oper} {rest : List Oper} {o : Oper} {a : Act} {w : World} {Q : Exit → Act → World → Prop}
  (hg : o.guard = none) (s x : Operand) (t : TypeId) (hop : o.op = Op.call { callee := Callee.builtin Builtin.append, args := #[s, x], argTypes := #[t, t] })
  (e : TypeId) (i : TypeInfo) (size : Nat) (h1 : P.underlying t = some (.slice e)) (h2 : P.info? e = some i) (h4 : i.size = size)
  (b off n cap : Nat) (hs : a.eval s = .slice (some ⟨b, off, none⟩) n cap)
  (ad : Addr) (m c : Nat) (news : List Value) (hx : a.eval x = .slice (some ad) m c) (hn : news.length = m * size) (hc : ∀ j u, news[j]? = some u → w.cell? (ad.add j) = some u) (h1c : ∀ u ∈ news, u.oneCell' = true)
  (hroom : n + m ≤ cap) (hspare : ∀ j, j < news.length → (w.cell? ⟨b, off + n * size + j, none⟩).isSome = true ∧ w.frozen? ⟨b, off + n * size + j, none⟩ = false)
  (hK : wpList P ops Q rest (a.put o.dst (.slice (some ⟨b, off, none⟩) (n + m) cap)) (w.setCells b (off + n * size) news)) : wpList P ops Q (o :: rest) a w := by
 refine wpList_plain hg fun K hK' => ?_
 subst h4
 have hrun := run_append_room_cells (P := P) w t o.type e i h1 h2 b off n cap ad m c news hn hc h1c hroom (fun j hj => (hspare j hj).1) (fun j hj => (hspare j hj).2)
 unfold Oper.wp execOp
 simp only [hop, resolve, invoke, builtin, Sem.run_bind, Sem.run_pure, Result.andThen_ok, List.map_toArray, List.map_cons, List.map_nil, hs, hx, hrun]
 exact hK' _ _ hK
set_option maxRecDepth 100000 in
set_option maxHeartbeats 4000000 in
theorem deleteK_any {w : World} {base g cap : Nat} {l : List Kd} {m : Nat} (h : w.ownsRow base 85 3 (.slice (some ⟨g, 0, none⟩) l.length cap) l.length (kidCells l)) (hm : m < l.length) (hn : l.length ≤ 1048576) :
  Calls Tryz.prog 82 #[.slice (some ⟨g, 0, none⟩) l.length cap, .int .i64 (m : Int), .int .i64 ((m : Int) + 1)] w fun e w' =>
    e = .returned (.slice (some ⟨g, 0, none⟩) (l.length - 1) cap) ∧ w'.ownsRow base 85 3 (.slice (some ⟨g, 0, none⟩) (l.length - 1) cap) (l.length - 1) (kidCells (l.take m ++ l.drop (m + 1))) ∧ Tp.Kp (fun b => b = g) w w' := by
 obtain ⟨M, hM⟩ : ∃ M, l.length = M + 1 := ⟨l.length - 1, by omega⟩
 obtain ⟨r, hr⟩ : ∃ r, M = m + r := ⟨M - m, by omega⟩
 have hcap : M + 1 ≤ cap ∧ cap ≤ maxLen := by
  rcases h.2 with ⟨hx, _⟩ | ⟨g', cap', cur, hx, _, _, hle, hm, _⟩
  · cases hx
  · injection hx with _ _ hx
    omega
 obtain ⟨o', ho', q2⟩ := sliceK_from (b := g) (N := M + 1) (c := cap) (m := m) (r := r) (by omega) hcap.1
 obtain ⟨news, hnews⟩ : ∃ news, news = kidCells (l.drop (m + 1)) := ⟨_, rfl⟩
 have hnl : news.length = r * 3 := by rw [hnews, kidCells_length, List.length_drop]; congr 1; omega
 have hown0 : w.drew.ownsRow base 85 3 (.slice (some ⟨g, 0, none⟩) (M + 1) cap) (M + 1) (kidCells l) := by rw [← hM]; exact h
 have hsrc : ∀ j u, news[j]? = some u → w.drew.cell? ((⟨g, o', none⟩ : Addr).add j) = some u := fun j u hu => by
  have hj := (List.getElem?_eq_some_iff.1 hu).1
  have := ho' (by omega)
  rw [Addr.add_lit, this]
  rw [hnews, ← kidCells_drop, List.getElem?_drop] at hu
  rw [hown0.cellAt _ (by omega)]
  exact hu
 obtain ⟨W1, hW1⟩ : ∃ W1, W1 = w.drew.setCells g (m * 3) news := ⟨_, rfl⟩
 have hown1 : W1.ownsRow base 85 3 (.slice (some ⟨g, 0, none⟩) (M + 1) cap) (M + 1) ((kidCells l).take (m * 3) ++ news ++ (kidCells l).drop (m * 3 + news.length)) := by
  rw [hW1]
  exact own_cells news hown0 (by rw [hnl, kidCells_length, hM]; omega)
 have hspare : ∀ j, j < news.length → (w.drew.cell? ⟨g, 0 + m * 3 + j, none⟩).isSome = true ∧ w.drew.frozen? ⟨g, 0 + m * 3 + j, none⟩ = false := fun j hj => by
  refine ⟨?_, hown0.frozenAt _⟩
  rw [Nat.zero_add, hown0.cellAt _ (by omega)]
  rw [List.getElem?_eq_getElem (by rw [kidCells_length, hM]; omega)]
  rfl
 have hcl : ∀ ty, (Builtin.clear_ #[24] ty #[.slice (some ⟨g, M * 3, none⟩) 1 (cap - M)]).run Tryz.prog W1 = .ok (.tuple #[]) (W1.setCells g (M * 3) [.int .i64 0, .int .i64 0, .int .i64 0]) := fun ty =>
  clear_one W1 ty g (M * 3) _ (fun j hj => by
    rw [hown1.cellAt _ (by omega)]
    rw [List.getElem?_eq_getElem (by rw [hown1.1]; omega)]
    rfl) (fun j _ => hown1.frozenAt _)
 have hfin : (W1.setCells g (M * 3) [.int .i64 0, .int .i64 0, .int .i64 0]).ownsRow base 85 3 (.slice (some ⟨g, 0, none⟩) M cap) M (kidCells (l.take m ++ l.drop (m + 1))) := by
  have h1 := own_cells [.int .i64 0, .int .i64 0, .int .i64 0] hown1 (j := M * 3) (by rw [hown1.1]; simp; omega)
  have h2 := own_less h1 (k := M) (by omega)
  have e : ((((kidCells l).take (m * 3) ++ news ++ (kidCells l).drop (m * 3 + news.length)).take (M * 3) ++ [Value.int .i64 0, .int .i64 0, .int .i64 0] ++ ((kidCells l).take (m * 3) ++ news ++ (kidCells l).drop (m * 3 + news.length)).drop (M * 3 + [Value.int .i64 0, .int .i64 0, .int .i64 0].length))).take (M * 3) = kidCells (l.take m ++ l.drop (m + 1)) := by
    have hx : ((kidCells l).take (m * 3) ++ news).length = M * 3 := by rw [List.length_append, List.length_take, hnl, kidCells_length, hM]; omega
    have h3 : ((kidCells l).take (m * 3) ++ news ++ (kidCells l).drop (m * 3 + news.length)).take (M * 3) = (kidCells l).take (m * 3) ++ news := by
     rw [← hx, List.take_left]
    rw [h3, List.append_assoc, ← hx, List.take_left, kidCells_take, hnews, kidCells_append]
  rw [e] at h2
  exact h2
 have hkp : Tp.Kp (fun b => b = g) w (W1.setCells g (M * 3) [.int .i64 0, .int .i64 0, .int .i64 0]) := by
  refine kp_setCells g _ _ ?_
  rw [hW1]
  exact kp_setCells g _ _ ((Tp.Kp.refl _ w).drew)
 obtain ⟨i0, hi0, hz0⟩ : ∃ i0, Tryz.prog.info? 85 = some i0 ∧ i0.size = 3 := by
  have := Tryz.info85
  cases hq : Tryz.prog.info? 85 with
  | none => rw [hq] at this; cases this
  | some i => rw [hq] at this; simp at this; exact ⟨i, rfl, this.2.1⟩
 have q1 : ∀ W : World, (Instr.slice 24 (.slice (some ⟨g, 0, none⟩) (M + 1) cap) none (some (.int .i64 (m : Int))) none).run Tryz.prog W = .ok (.slice (some ⟨g, 0, none⟩) m cap) W := fun W => sliceK_to (by omega) hcap.1 W
 have q3 : ∀ W : World, (Instr.slice 24 (.slice (some ⟨g, 0, none⟩) (m + r) cap) (some (.int .i64 ((m : Int) + (r : Int)))) (some (.int .i64 ((M : Int) + 1))) none).run Tryz.prog W = .ok (.slice (some ⟨g, M * 3, none⟩) 1 (cap - M)) W := fun W => by
  rw [← hr]
  exact sliceK_last hcap.1 hr W
 obtain ⟨v0, q0⟩ := sliceK_mid (b := g) hcap.1 (m := m) (by omega)
 have k1 : ((m : Int) == (m : Int) + 1) = false := by simp; omega
 subst hW1
 have HF := Lib.hid hfin
 have HK := Lib.hid hkp
 have HR := Lib.hid hr
 have HN := Lib.hid hnl
 have HS := Lib.hid hsrc
 have HP := Lib.hid hspare
 have h1c : Hid (∀ u ∈ news, u.oneCell' = true) := by rw [hnews]; exact kidCells_one _
 have hge : m + r ≤ cap := by omega
 rw [hM]
 clear hM hown0 hown1 hspare hsrc hnews hnl hfin hkp h hr ho'
 go_enter Tryz.func82, Tryz.ntmps82
 go_wp2_with fail
 go_still_tail 6, (by kernel_rfl)
 change wpList _ _ _ _ _ w.drew
 go_wp2_with (first | (at_builtin; refine wpList_append_room rfl _ _ 24 rfl 85 i0 3 Tryz.underlying24 hi0 hz0 g 0 m cap rfl ⟨g, o', none⟩ r (cap - (m + 1)) news rfl HN.out HS.out h1c.out hge HP.out ?_))
 go_wp2_with fail
 go_ret
 rw [← HR.out]
 exact ⟨rfl, HF.out, HK.out⟩
end Go.Proofs.YtgcbfggoddkhnaaGreatDoor
namespace Go.Proofs.YtgcbfggoddkhnaaGreatDoor
open Go.RowKit
def WkAt (w : World) (base : Nat) (v : Value) (W : List (List Int)) : Prop :=
 ∃ cs, w.ownsRow base 43 1 v W.length cs ∧ ∀ (i : Nat) (x : List Int), W[i]? = some x → ∃ u, cs[i]? = some u ∧ SlV w (fun b => v.ownBlock = some b) u x.length (Pa.zCellsOf x)
theorem kp_grown {w w' : World} {row : Option Nat} (hg : w.grownBy w' row) : Tp.Kp (fun b => row = some b) w w' := (Tp.Kp.refl _ w).grown hg fun _ e _ => e
theorem WkAt.nil (w : World) (base : Nat) : WkAt w base (.slice none 0 0) [] := ⟨[], World.ownsRow_nil _ _ _ _, fun i x h => by simp at h⟩
theorem WkAt.on {w w' : World} {base : Nat} {v : Value} {W : List (List Int)} (h : WkAt w base v W) (hb : Below w.heap.size w w') : WkAt w' base v W := by
 obtain ⟨cs, h1, h2⟩ := h
 refine ⟨cs, own_on h1 hb, fun i x hx => ?_⟩
 obtain ⟨u, h3, h4⟩ := h2 i x hx
 exact ⟨u, h3, h4.on hb fun _ _ h => h⟩
theorem SlV.map {w w' : World} {F : Nat → Prop} {v : Value} {n : Nat} {cs : List Value} {bm m : Nat} {T : TT} {V : List UInt8 → Value} (h : SlV w F v n cs) (hm : MapV w bm m T V) (hk : Tp.Kp (fun b => b = bm) w w') : SlV w' F v n cs := by
 obtain ⟨A, c, h1, h2, h3, h4⟩ := h
 refine ⟨A, c, h1, h2, h3, fun hp => ?_⟩
 obtain ⟨b, o, hA, hb, hlt, hc⟩ := h4 hp
 have h0 := hc 0 _ (List.getElem?_eq_getElem hp)
 have hne : ¬ b = bm := hm.ne h0
 exact ⟨b, o, hA, hb, Nat.lt_of_lt_of_le hlt hk.size, fun k u hu => hk.cell (hc k u hu) hne⟩
theorem WkAt.map {w w' : World} {base : Nat} {v : Value} {W : List (List Int)} {bm m : Nat} {T : TT} {V : List UInt8 → Value} (h : WkAt w base v W) (hm : MapV w bm m T V) (hk : Tp.Kp (fun b => b = bm) w w') : WkAt w' base v W := by
 obtain ⟨cs, h1, h2⟩ := h
 refine ⟨cs, own_kp h1 hk fun b hb e => hm.not_row h1 (by rw [hb, e]), fun i x hx => ?_⟩
 obtain ⟨u, h3, h4⟩ := h2 i x hx
 exact ⟨u, h3, h4.map hm hk⟩
theorem WkAt.snoc {w w' : World} {base : Nat} {v v' u : Value} {W : List (List Int)} {x : List Int} {cs : List Value} (h1 : w.ownsRow base 43 1 v W.length cs)
   (h2 : ∀ (i : Nat) (x : List Int), W[i]? = some x → ∃ u, cs[i]? = some u ∧ SlV w (fun b => v.ownBlock = some b) u x.length (Pa.zCellsOf x)) (hu : SlV w (fun b => v.ownBlock = some b) u x.length (Pa.zCellsOf x))
   (hown : w'.ownsRow base 43 1 v' (W.length + 1) (cs ++ [u])) (hg : w.grownBy w' v.ownBlock) (hloc : v'.ownBlock = v.ownBlock ∨ v'.ownBlock = some w.heap.size) : WkAt w' base v' (W ++ [x]) := by
 have hk := kp_grown hg
 have hF : ∀ b, b < w.heap.size → v'.ownBlock = some b → v.ownBlock = some b := fun b hb e => by
   rcases hloc with h | h
   · rw [← h]; exact e
   · rw [h] at e
     injection e with e
     omega
 have hcl : cs.length = W.length := by have := h1.1; omega
 refine ⟨cs ++ [u], by rw [List.length_append]; exact hown, fun i y hy => ?_⟩
 by_cases hi : i < W.length
 · rw [List.getElem?_append_left hi] at hy
   obtain ⟨u2, h3, h4⟩ := h2 i y hy
   exact ⟨u2, by rw [List.getElem?_append_left (by omega)]; exact h3, h4.kp hk (fun _ _ h => h) hF⟩
 · have hi2 : i = W.length := by
     have := (List.getElem?_eq_some_iff.1 hy).1
     simp at this
     omega
   subst hi2
   simp at hy
   subst hy
   exact ⟨u, by rw [← hcl]; simp, hu.kp hk (fun _ _ h => h) hF⟩
theorem WkAt.pop {w : World} {base : Nat} {v : Value} {W : List (List Int)} {x : List Int} (h : WkAt w base v (W ++ [x])) :
  ∃ g c u, v = .slice (some ⟨g, 0, none⟩) (W.length + 1) c ∧ base ≤ g ∧ g < w.heap.size ∧ W.length + 1 ≤ c ∧ c ≤ maxLen ∧ w.cell? ⟨g, W.length, none⟩ = some u ∧ SlV w (fun b => (Value.slice (some ⟨g, 0, none⟩) W.length c).ownBlock = some b) u x.length (Pa.zCellsOf x) ∧ WkAt w base (.slice (some ⟨g, 0, none⟩) W.length c) W := by
 obtain ⟨cs, h1, h2⟩ := h
 rw [List.length_append, List.length_singleton] at h1
 have h1' := h1
 obtain ⟨g, c, rfl, hb, hlt, hcell, _⟩ := row_cell h1 (by omega)
 obtain ⟨u, h3, h4⟩ := h2 W.length x (by simp)
 have hc : W.length + 1 ≤ c ∧ c ≤ maxLen := by
  rcases h1'.2 with ⟨hx, _⟩ | ⟨g', c', cur, hx, _, _, hle, hm, _⟩
  · cases hx
  · injection hx with _ _ hx
    omega
 refine ⟨g, c, u, rfl, hb, hlt, hc.1, hc.2, hcell _ _ h3, h4, cs.take (W.length * 1), own_less h1' (by omega), fun i y hy => ?_⟩
 have hi := (List.getElem?_eq_some_iff.1 hy).1
 obtain ⟨u2, h5, h6⟩ := h2 i y (by rw [List.getElem?_append_left hi]; exact hy)
 exact ⟨u2, by rw [List.getElem?_take, if_pos (by omega)]; exact h5, h6⟩
theorem WkAt.none {w : World} {base : Nat} {v : Value} {W : List (List Int)} (h : WkAt w base v W) : ∃ A c, v = .slice A W.length c := by
 obtain ⟨cs, h1, _⟩ := h
 rcases h1.2 with ⟨hx, h0⟩ | ⟨g, c, cur, hx, _⟩
 · exact ⟨Option.none, 0, by rw [hx, h0]⟩
 · exact ⟨_, _, hx⟩
theorem TabIs.sub {w w' : World} {F : Nat → Prop} {t bm n n' : Nat} {T T' : TT} {V K : List UInt8 → Value} (h : TabIs w F t bm n T V K) (hk : Tp.Kp (fun b => b = bm) w w') (hm : MapV w' bm n' T' V) (hT : ∀ s o, T' s = some o → T s = some o) : TabIs w' F t bm n' T' V K where
 var := hk.cell h.var fun e => h.map.ne h.var e
 map := hm
 wide := fun s o ho => h.wide s o (hT s o ho)
 ob := fun s o ho => (h.ob s o (hT s o ho)).kp hk (fun b _ e => by rw [e]; exact h.isF) fun _ _ h => h
 row := fun s o ho => own_kp (h.row s o (hT s o ho)) hk fun b hb e => h.map.not_row (h.row s o (hT s o ho)) (by rw [hb, e])
 isF := h.isF
 inF := fun s o ho => h.inF s o (hT s o ho)
 ltF := fun b hb => Nat.lt_of_lt_of_le (h.ltF b hb) hk.size
 dist := fun s s' o o' h1 h2 => h.dist s s' o o' (hT s o h1) (hT s' o' h2)
 notF := h.notF
theorem RemT.sub {T' T1 : TT} {p : List Int} {W : List (List Int)} (h : RemT T' T1 p W) : ∀ s o, T' s = some o → T1 s = some o := fun s o hs => by
 obtain ⟨q, rfl⟩ := h.key s o hs
 rw [h.at'] at hs
 split at hs
 · cases hs
 · exact hs
theorem find_is {w : World} {F : Nat → Prop} {t bm n : Nat} {T : TT} {V K : List UInt8 → Value} {A : Option Addr} {c : Nat} {p : List Int} {o : Ob} (he : Env w) (ht : TabIs w F t bm n T V K) (hp : Pa.PL w A c p) (hn : p.length ≤ 10000000) (ho : T (Pa.zText p) = some o) :
  Calls Tryz.prog 75 #[.pointer (some ⟨t, 0, none⟩), .slice A p.length c] w (RetB w (.tuple #[V (Pa.zText p), .bool true])) := by
 have e : lookV T V (Pa.zText p) = V (Pa.zText p) := by unfold lookV; rw [ho]
 have h := find_any he ht.var ht.map hp hn (by rw [e]; exact (ht.ob _ o ho).shape (slv_row (ht.row _ o ho)))
 rw [e, ho] at h
 exact h
end Go.Proofs.YtgcbfggoddkhnaaGreatDoor
namespace Go.Proofs.YtgcbfggoddkhnaaGreatDoor
open Go.RowKit
def RmRel (w : World) (bm n : Nat) (p : List Int) (L : Tab) (T1 : TT) (V : List UInt8 → Value) (k : Nat) (r v : Value) (wr : World) : Prop :=
 ∃ W, ∃ m : Nat, ∃ T', r = .int .i64 (m : Int) ∧ m + k = cnt L p ∧ RemI L p W m ∧ RemT T' T1 p W ∧ WkAt wr w.heap.size v W ∧ Tp.Kp (fun b => b = bm) w wr ∧ MapV wr bm n T' V
def RmIn (w : World) (bm n : Nat) (W : List (List Int)) (x : List Int) (o : Ob) (u : Value) (T' : TT) (V : List UInt8 → Value) (k : Nat) (v i : Value) (wr : World) : Prop :=
 ∃ m, m + k = o.kids.length ∧ i = .int .i64 (m : Int) ∧ WkAt wr w.heap.size v (W ++ (o.kids.take m).map fun k => x ++ [k.1]) ∧ SlV wr (fun b => v.ownBlock = some b) u x.length (Pa.zCellsOf x) ∧ Tp.Kp (fun b => b = bm) w wr ∧ MapV wr bm n T' V
theorem Tryz.info43 : (Tryz.prog.info? 43).map (fun i => (i.zero, i.size, i.bytes)) = some (some (.slice none 0 0), 1, 24) := by kernel_rfl
theorem path_pl {w : World} {F : Nat → Prop} {u : Value} {x : List Int} (h : SlV w F u x.length (Pa.zCellsOf x)) (hx : Pa.PathOk x) : ∃ A c, u = .slice A x.length c ∧ Pa.PL w A c x := h.pl hx.wide
set_option maxRecDepth 100000 in
theorem MapV.delW {w : World} {b n : Nat} {T : TT} {V : List UInt8 → Value} (h : MapV w b n T V) {s : List UInt8} (hs : s.length ≤ 100000000000) :
  (Builtin.delete_ #[72, 9] 0 #[.map (some b), .string (str s)]).run Tryz.prog w = .ok (.tuple #[]) (YtgcbfggoddkhnaaGreatDoor.delW b s w) ∧ MapV (YtgcbfggoddkhnaaGreatDoor.delW b s w) b n (delT T s) V ∧ Tp.Kp (fun x => x = b) w (YtgcbfggoddkhnaaGreatDoor.delW b s w) := by
 obtain ⟨w', h1, h2, h3⟩ := h.del hs 0
 have e : YtgcbfggoddkhnaaGreatDoor.delW b s w = w' := by unfold YtgcbfggoddkhnaaGreatDoor.delW; rw [h1]
 rw [e]
 exact ⟨h1, h2, (Tp.Kp.refl _ w).grown h3 fun k e _ => by injection e with e; exact e.symm⟩
theorem step_delete {P : Program} {ops : Array Oper} {o : Oper} {a : Act} {w w' : World} {K : Act → World → Prop} {Q : Exit → Act → World → Prop} {E : Prop}
  (hg : o.guard = none) (m x : Operand) (k e : TypeId) (hop : o.op = Op.call { callee := Callee.builtin Builtin.delete, args := #[m, x], argTypes := #[k, e] })
  (b : Nat) (S : ByteArray) (hm : a.eval m = .map (some b)) (hx : a.eval x = .string S) (hrun : (Builtin.delete_ #[k, e] o.type #[.map (some b), .string S]).run P w = .ok (.tuple #[]) w')
  (hK : K (a.put o.dst (.tuple #[])) w') : if Region.wanted o (yielded ops a.tmps) = true then Oper.wp P o a w K Q else E := by
 have hw : Region.wanted o (yielded ops a.tmps) = true := by simp [Region.wanted, hg]
 rw [if_pos hw]
 unfold Oper.wp
 simp [execOp, hop, resolve, invoke, builtin, hm, hx, hrun, Result.andThen]
 exact hK
set_option maxRecDepth 100000 in
set_option maxHeartbeats 8000000 in
theorem removeAll_any {w : World} {F : Nat → Prop} {t bm n : Nat} {T1 : TT} {V K : List UInt8 → Value} {L : Tab} {A : Option Addr} {c : Nat} {p : List Int} (he : Env w) (ht : TabIs w F t bm n T1 V K) (hv : ValT L) (hF8 : 8 ≤ bm) (hlen : L.length ≤ 1000000) (hp : Pa.PL w A c p)
  (hex : (fnd L p).isSome = true) (hT : ∀ q, p <+: q → T1 (Pa.zText q) = fnd L q) (hk : ∀ s o, T1 s = some o → ∃ q, s = Pa.zText q) :
  Calls Tryz.prog 83 #[.pointer (some ⟨t, 0, none⟩), .slice A p.length c] w fun e w' => e = .returned (.int .i64 (cnt L p : Int)) ∧ ∃ T', RemT T' T1 p [] ∧ TabIs w' F t bm n T' V K ∧ Tp.Kp (fun b => b = bm) w w' := by
 have HTI := Lib.hid ht
 have HV := Lib.hid hv
 have HE := Lib.hid he
 have HT := Lib.hid hT
 have hbl := ht.map.lt
 have hcl := cnt_le L p
 obtain ⟨i0, hi, hz0, hz1, hz2⟩ := info_parts Tryz.info43
 have hB0 : Below w.heap.size w (w.alloc (.cells #[.slice A p.length c] 43)) := (Below.refl _ _).alloc (Nat.le_refl _) _
 have W0 : Hid (WkAt (w.alloc (.cells #[.slice A p.length c] 43)) w.heap.size (.slice (some ⟨w.heap.size, 0, none⟩) 1 1) [p]) := by
  refine ⟨[.slice A p.length c], ⟨by simp, .inr ⟨w.heap.size, 1, #[.slice A p.length c], rfl, Nat.le_refl _, heap_alloc_new w _, by simp, by unfold maxLen; omega, by simp, by simp⟩⟩, fun i x hx => ?_⟩
  have hi0 : i = 0 := by have := (List.getElem?_eq_some_iff.1 hx).1; simp at this; omega
  subst hi0
  simp at hx
  subst hx
  refine ⟨_, rfl, A, c, rfl, hp.nil, hp.cap, fun hpos => ?_⟩
  obtain ⟨b, o, hA, hlt, hc⟩ := hp.zs (by simpa [Pa.zCellsOf] using hpos)
  refine ⟨b, o, hA, fun e => ?_, by simp; omega, fun k u hu => ?_⟩
  · simp [Value.ownBlock] at e; omega
  · unfold Pa.zCellsOf at hu
    rw [List.getElem?_map] at hu
    cases hq : p[k]? with
    | none => rw [hq] at hu; cases hu
    | some z =>
     rw [hq] at hu
     simp at hu
     subst hu
     exact (hB0.cell (p := ⟨b, o + k, none⟩) hlt).trans (hc k z hq)
 have K0 := Lib.hid (Tp.Kp.of_below hB0 fun b => b = bm)
 have M0 := Lib.hid (ht.map.on hB0)
 have I0 := Lib.hid (RemI.start hex)
 have R0 := Lib.hid (RemT.start p hk)
 clear he ht hv hT hp hex hk hB0
 go_enter Tryz.func83, Tryz.ntmps83
 go_wp2_with fail
 go_loopg [5, 6] (cnt L p) (fun k r v wr => RmRel w bm n p L T1 V k r v wr)
 case atStart => exact ⟨[p], 0, T1, rfl, by simp, I0.out, R0.out, W0.out, K0.out, M0.out⟩
 case round =>
  obtain ⟨W, m, T', hr, hmk, hI, hR, hw, hkp, hmv⟩ := hrel
  subst hr
  have HI := Lib.hid hI
  have HR := Lib.hid hR
  have HW := Lib.hid hw
  have HK := Lib.hid hkp
  have HM := Lib.hid hmv
  have hWl := hI.len
  cases gk with
  | zero =>
    have hW0 : W = [] := List.eq_nil_of_length_eq_zero (by omega)
    subst hW0
    have hm0 : m = cnt L p := by omega
    subst hm0
    obtain ⟨A0, c0, rfl⟩ := hw.none
    have HD := Lib.hid (HTI.out.sub hkp hmv hR.sub)
    clear hI hR hw hkp hmv hmk
    go_wp2_with fail
    go_ret
    exact ⟨rfl, T', HR.out, HD.out, HK.out⟩
  | succ j =>
    have hWne : W ≠ [] := by
     intro e
     subst e
     have := hI.sum
     simp at this
     omega
    obtain ⟨W1, x, rfl⟩ : ∃ W1 x, W = W1 ++ [x] := ⟨W.dropLast, W.getLast hWne, (List.dropLast_concat_getLast hWne).symm⟩
    obtain ⟨g, cw, u, rfl, hgb, hgl, hcw, hcm, hcell, hu, hw1⟩ := hw.pop
    obtain ⟨o, hfo⟩ := Option.isSome_iff_exists.1 (hI.there x (by simp)).2
    have hxo := HV.out.pathAt hfo
    obtain ⟨Au, cu, rfl, hpu⟩ := path_pl hu hxo
    have hTx : T' (Pa.zText x) = some o := (hR.next hI HT.out).trans hfo
    have HTx := Lib.hid hTx
    have hti := HTI.out.sub hkp hmv hR.sub
    have E8 : Below 8 w wr := hkp.below HE.out.1 fun k e => by rw [e]; exact hF8
    have EW := Lib.hid (HE.out.below E8 (Nat.le_refl _))
    have hxl : x.length ≤ 10000000 := by have := hxo.1; omega
    have H75 := find_is EW.out hti hpu hxl hTx
    have hkl := (HV.out.obAt hfo).kids.1
    have HFO := Lib.hid hfo
    have HXO := Lib.hid hxo
    have HU := Lib.hid hu
    have HW1 := Lib.hid hw1
    have hW1l : (W1 ++ [x]).length = W1.length + 1 := by simp
    rw [hW1l] at hWl
    obtain ⟨vk, ⟨vl, vb, vo, ve, vm, hV, ⟨Al, cl, rfl, -⟩, ⟨Ab, cb, rfl, -⟩, ⟨Ao, co, rfl, -⟩, ⟨Ae, ce, rfl, -⟩, ⟨Am, cm, rfl, -⟩⟩, hks⟩ : ∃ vk, ObjK wr F (V (Pa.zText x)) vk o ∧ vk = K (Pa.zText x) := ⟨_, hti.ob _ o hTx, rfl⟩
    obtain ⟨Ak, ck, hkk, -⟩ := slv_row (hti.row _ o hTx)
    rw [hkk] at hks
    subst hks
    rw [hV] at H75
    have H75 := Lib.hid H75
    have HKK := Lib.hid hkk
    have hsz := hkp.size
    clear hI hR hw hw1 hkp hmv hti hTx hpu hV hu E8 hfo hxo hkk hW1l hWne
    go_wp2_with fail
    refine H75.out.mono ?_
    rintro e w2 ⟨rfl, hb2⟩
    have hal := fun O => (Below.refl w2.heap.size w2).alloc (Nat.le_refl _) O
    have B3 := Lib.hid (fun O => next_below hb2 (hal O))
    clear hb2 hal H75
    obtain ⟨Wo, hWo⟩ : ∃ X, X = wr := ⟨_, rfl⟩
    subst hWo
    go_wp2_with fail
    go_loopg [6, 41] o.kids.length (fun k v i wr => RmIn w bm n W1 x o (.slice Au x.length cu) T' V k v i wr)
    case atStart => exact ⟨0, by simp, rfl, by simpa using HW1.out.on (B3.out _), HU.out.on (B3.out _) (fun _ _ h => h), HK.out.andThen (Tp.Kp.of_below (B3.out _) _) (fun _ _ h => h), HM.out.on (B3.out _)⟩
    case round =>
     obtain ⟨m1, hmk1, hi1, hw1, hu1, hk1, hm1⟩ := hrel
     subst hi1
     have HU1 := Lib.hid hu1
     have HK1 := Lib.hid hk1
     have HM1 := Lib.hid hm1
     have HW2 := Lib.hid hw1
     cases gk with
     | zero =>
      have hge : o.kids.length ≤ m1 := by omega
      rw [List.take_of_length_le hge] at hw1
      have HW3 := Lib.hid hw1
      obtain ⟨Au', cu', hAu, hpu⟩ := path_pl hu1 HXO.out
      injection hAu with e1 _ e3
      subst e1 e3
      have E1 : Env wr := HE.out.below (hk1.below HE.out.1 fun k e => by rw [e]; exact hF8) (Nat.le_refl _)
      have hsl : (Pa.zText x).length ≤ 100000000000 := by have := Pa.zText_len hpu.wide; omega
      obtain ⟨S, hS⟩ : ∃ S, S = str (Pa.zText x) := ⟨_, rfl⟩
      have R68 : Hid (∀ W, Below wr.heap.size wr W → Calls Tryz.prog 68 #[.slice Au x.length cu] W (RetB W (.string S))) := fun W hW => by
       rw [hS]
       exact Pa.text_any (E1.on hW) (hpu.on hW).zs hpu.wide hxl
      have c0 : wr.cell? ⟨t, 0, none⟩ = some (.map (some bm)) := hk1.cell HTI.out.var fun e => HTI.out.map.ne HTI.out.var e
      have htl := World.block_lt_of_cell? wr _ c0
      have hdl : Hid (∀ W, Below wr.heap.size wr W → (Builtin.delete_ #[72, 9] 0 #[.map (some bm), .string S]).run Tryz.prog W = .ok (.tuple #[]) (delW bm (Pa.zText x) W)) := fun W hW => by
       rw [hS]
       exact ((HM1.out.on hW).delW hsl).1
      have mk : ∀ W, Below wr.heap.size wr W → W.cell? ⟨t, 0, none⟩ = some (.map (some bm)) := fun W hW => (hW.cell (p := ⟨t, 0, none⟩) htl).trans c0
      have mkP : ∀ W, Below wr.heap.size wr W → (delW bm (Pa.zText x) W).cell? ⟨t, 0, none⟩ = some (.map (some bm)) := fun W hW => ((HM1.out.on hW).delW hsl).2.2.cell (mk W hW) fun e => HTI.out.map.ne HTI.out.var e
      have hdr : Below wr.heap.size wr wr.drew := (Below.refl _ _).drew
      have HSL := Lib.hid hsl
      clear hw1 hu1 hk1 hm1 hpu E1 hS hsl htl
      go_wp2_with fail
      go_region_held3 (fun W => W.cell? ⟨t, 0, none⟩ = some (.map (some bm)))
       (first | with_reducible exact mkP _ B8.out | with_reducible exact mk _ B8.out | with_reducible exact mk _ hdr | with_reducible exact c0)
       (first
         | (go_at_call 68; refine (R68.out _ hdr).mono ?_; rintro e W8 ⟨rfl, hb8⟩; have B8 := Lib.hid (next_below hdr hb8); clear hb8)
         | (refine step_delete (by rfl) _ _ 72 9 (by rfl) bm S (by rfl) (by rfl) (hdl.out _ B8.out) ?_))
      obtain ⟨_, hm9, hk9⟩ := (HM1.out.on B8.out).delW HSL.out
      have hk8 : Tp.Kp (fun b => b = bm) w W8 := HK1.out.andThen (Tp.Kp.of_below B8.out _) fun _ _ h => h
      have HK9 := Lib.hid (hk8.andThen hk9 fun _ _ h => h)
      have HW9 := Lib.hid ((HW3.out.on B8.out).map (HM1.out.on B8.out) hk9)
      have HM9 := Lib.hid hm9
      clear hm9 hk9 hk8 mk mkP c0 hdr
      go_wp2_with fail
      go_roundg j
      case measure => omega
      case rel => exact ⟨_, m + 1, _, by go_num, by omega, HI.out.step HV.out HFO.out, HR.out.step HV.out HI.out HFO.out HT.out, HW9.out, HK9.out, HM9.out⟩
     | succ j1 =>
      have hm1l : m1 < o.kids.length := by omega
      obtain ⟨⟨n1, kd, qq⟩, hk⟩ : ∃ k, o.kids[m1]? = some k := ⟨_, List.getElem?_eq_getElem hm1l⟩
      have hti1 := HTI.out.sub hk1 hm1 HR.out.sub
      have hrow := hti1.row _ o HTx.out
      rw [HKK.out] at hrow
      obtain ⟨g2, c2, he2, -, hlt2, hc2, -⟩ := row_cell hrow (by omega)
      injection he2 with e1 _ e3
      subst e1 e3
      obtain ⟨e1, e2, e3⟩ := kidCells_at hk
      have d1 := hc2 _ _ e1
      have d2 := hc2 _ _ e2
      have d3 := hc2 _ _ e3
      obtain ⟨Au', cu', hAu, hpu⟩ := path_pl hu1 HXO.out
      injection hAu with e1 _ e3
      subst e1 e3
      obtain ⟨q, hq⟩ : ∃ q, q = x ++ [n1] := ⟨_, rfl⟩
      have hok : Pa.PathOk q := by rw [hq]; exact (HV.out.holds _ (fnd_mem HFO.out) _ (List.mem_of_getElem? hk)).1
      have hal := (Below.refl wr.heap.size wr).alloc (Nat.le_refl _) (.cells #[.int .i64 n1, .int .i64 kd, .int .i64 qq] 85)
      have H79 := Lib.hid (Pa.child_any (n := n1) (hpu.on hal) hxl)
      rw [← hq] at H79
      obtain ⟨WW, hWW⟩ : ∃ WW, WW = W1 ++ (o.kids.take m1).map fun k => x ++ [k.1] := ⟨_, rfl⟩
      rw [← hWW] at hw1
      have hWl2 : WW.length ≤ 1000100 := by rw [hWW]; simp; omega
      obtain ⟨Aw, cw2, rfl⟩ := hw1.none
      have HNX : Hid (W1 ++ (o.kids.take (m1 + 1)).map (fun k => x ++ [k.1]) = WW ++ [q]) := by
       unfold Hid
       rw [List.take_add_one, hk, hWW, hq]
       simp
      have hs1 := hk1.size
      have BA := Lib.hid hal
      have W3 := Lib.hid (hw1.on hal)
      have U3 := Lib.hid (hu1.on hal fun _ _ h => h)
      have HOK := Lib.hid hok
      clear hw1 hu1 hk1 hm1 hpu hti1 hrow hc2 hk hal hok hWW hq
      go_wp2_with fail
      refine H79.out.mono ?_
      rintro e w4 ⟨hb4, ⟨_, v4, rfl, hr4⟩ | ⟨hno, rfl⟩⟩
      case inr => exact absurd HOK.out hno
      obtain ⟨A4, c4, rfl, hpl4⟩ := hr4.pl HOK.out.wide
      have B4 := Lib.hid (next_below BA.out hb4)
      obtain ⟨cs, hown, hcs⟩ := W3.out.on hb4
      have hU4 := U3.out.on hb4 fun _ _ h => h
      have hal5 := (Below.refl w4.heap.size w4).alloc (Nat.le_refl _) (.cells #[.slice A4 q.length c4] 43)
      have hb5 := next_below B4.out hal5
      have hq5 : SlV (w4.alloc (.cells #[.slice A4 q.length c4] 43)) (fun b => (Value.slice Aw WW.length cw2).ownBlock = some b) (.slice A4 q.length c4) q.length (Pa.zCellsOf q) := by
       have h := (slv_row (show w4.ownsRow _ 3 1 _ _ _ from hr4)).on (F' := fun b => (Value.slice Aw WW.length cw2).ownBlock = some b) hal5 fun b _ hb => by
         have := (own_block (W3.out.choose_spec.1) hb).2.1
         exact this
       exact h
      have hown5 := own_on hown hal5
      have hcs5 : ∀ (i : Nat) (y : List Int), WW[i]? = some y → ∃ u, cs[i]? = some u ∧ SlV (w4.alloc (.cells #[.slice A4 q.length c4] 43)) (fun b => (Value.slice Aw WW.length cw2).ownBlock = some b) u y.length (Pa.zCellsOf y) := fun i y hy => by
       obtain ⟨u, h1, h2⟩ := hcs i y hy
       exact ⟨u, h1, h2.on hal5 fun _ _ h => h⟩
      have HU5 := Lib.hid (hU4.on hal5 fun _ _ h => h)
      have B5 := Lib.hid hb5
      have H5 := Lib.hid hown5
      have C5 := Lib.hid hcs5
      have Q5 := Lib.hid hq5
      have hgb2 : ∀ b, (Value.slice Aw WW.length cw2).ownBlock = some b → w.heap.size ≤ b := fun b hb => (own_block hown hb).1
      have HGB := Lib.hid hgb2
      have hbase : w.heap.size ≤ (w4.alloc (.cells #[.slice A4 q.length c4] 43)).heap.size := by have := hb5.size; omega
      clear hb4 hr4 hpl4 hown hcs hU4 hal5 hb5 hq5 hown5 hcs5 H79 hgb2 d1 d2 d3
      go_wp2_with (first
       | (at_builtin; refine wpList_append_own_at _ rfl _ _ 66 rfl w.heap.size 43 i0 _ 1 24 Tryz.underlying66 hi hz0 hz1 hz2 rfl (by decide) _ WW.length cs rfl H5.out ⟨w4.heap.size, 0, none⟩ 1 1 [.slice A4 q.length c4] rfl rfl (cell_one_new _ _ _) (by simp [Value.oneCell']) (by unfold maxLen; omega) (by omega) hbase ?_))
      intro v' w6 hown6 hg6 _ hloc6
      have hsz5 : (w4.alloc (.cells #[.slice A4 q.length c4] 43)).heap.size = w4.heap.size + 1 := by simp
      rw [← hsz5] at hloc6
      have hk6 := kp_grown hg6
      have HW6 := Lib.hid (WkAt.snoc H5.out C5.out Q5.out hown6 hg6 hloc6)
      have HU6 : Hid (SlV w6 (fun b => v'.ownBlock = some b) (.slice Au x.length cu) x.length (Pa.zCellsOf x)) := HU5.out.kp hk6 (fun _ _ h => h) fun b hb e => by
       rcases hloc6 with h | h
       · rw [← h]; exact e
       · rw [h] at e
         injection e with e
         omega
      have hk7 : Tp.Kp (fun b => b = bm) w w6 := by
       have h1 : Tp.Kp (fun b => b = bm) w (w4.alloc (.cells #[.slice A4 q.length c4] 43)) := HK1.out.andThen (Tp.Kp.of_below B5.out _) fun _ _ h => h
       exact h1.andThen hk6 fun b hb e => by have := HGB.out b e; omega
      have HK7 := Lib.hid hk7
      have HM7 := Lib.hid ((HM1.out.on B5.out).kp hk6 fun e => by have := HGB.out _ e; omega)
      clear hk6 hown6 hg6 hloc6 hk7 hbase
      go_wp2_with fail
      go_roundg j1
      case measure => omega
      case rel => exact ⟨m1 + 1, by omega, by go_num, by rw [HNX.out]; exact HW6.out, HU6.out, HK7.out, HM7.out⟩
end Go.Proofs.YtgcbfggoddkhnaaGreatDoor
namespace Go.Proofs.YtgcbfggoddkhnaaGreatDoor
open Go.RowKit
noncomputable def remR (L : Tab) (p : List Int) : Int × Int := match fnd L p with
 | none => (0, 30)
 | some _ => if p = [] then (0, 2) else ((cnt L p : Int), 0)
def remL (L : Tab) (p : List Int) : Tab := match fnd L p.dropLast with
 | some b => cut (lay L p.dropLast (dropKid b (p.getLastD 0))) p
 | none => L
def RetRem (w : World) (F : Nat → Prop) (t n : Nat) (L : Tab) (p : List Int) (e : Ending) (w' : World) : Prop :=
 e = .returned (.tuple #[.int .i64 (remR L p).1, .int .i64 (remR L p).2]) ∧ ∃ F' T', TabAt w' F' t (n + 1) T' ∧ Stp w F w' F' ∧ IsT T' (if (remR L p).2 = 0 then remL L p else L)
theorem RetRem.same {w w' : World} {F : Nat → Prop} {t n : Nat} {T : TT} {L : Tab} {p : List Int} {e : Ending} {z : Int} (ht : TabAt w F t n T) (hI : IsT T L) (hb : Below w.heap.size w w') (hz : remR L p = (0, z)) (h0 : z ≠ 0) (he : e = .returned (.tuple #[.int .i64 0, .int .i64 z])) : RetRem w F t n L p e w' := by
 refine ⟨by rw [hz]; exact he, F, T, (ht.on hb).more (by omega), Stp.of_below hb, ?_⟩
 rw [hz, if_neg h0]
 exact hI
theorem ObjK.dropK {w : World} {F : Nat → Prop} {vl vk vb vo ve vm vk' : Value} {b : Ob} {n : Int} (h : ObjK w F (.agg #[.int .i64 b.kind, vl, vk, .int .i64 b.next, vb, vo, .int .i64 b.cats, ve, .int .i64 b.ring, vm]) vk b) :
  ObjK w F (.agg #[.int .i64 b.kind, vl, vk', .int .i64 b.next, vb, vo, .int .i64 b.cats, ve, .int .i64 b.ring, vm]) vk' (dropKid b n) := by
 obtain ⟨vl', vb', vo', ve', vm', e, h1, h2, h3, h4, h5⟩ := h
 simp at e
 obtain ⟨rfl, rfl, rfl, rfl, rfl⟩ := e
 exact ⟨_, _, _, _, _, rfl, h1, h2, h3, h4, h5⟩
theorem box_row {W : World} {b : Nat} {cs : Array Value} {ty : TypeId} (hX : BoxAt W b cs ty) {base : Nat} {e : TypeId} {size : Nat} {v : Value} {n : Nat} {xs : List Value} (hr : W.ownsRow base e size v n xs) (hne : ty ≠ e) : v.ownBlock ≠ some b := fun hb => by
 obtain ⟨_, _, cur, hh⟩ := own_block hr hb
 unfold BoxAt at hX
 rw [hX] at hh
 injection hh with hh
 injection hh with _ hh
 exact hne hh
theorem wide_dropK {b : Ob} {n : Int} (h : WideO b) : WideO (dropKid b n) :=
 { h with kids := ⟨Nat.le_trans (List.length_filter_le _ _) h.kids.1, fun k hk => h.kids.2 k (dropK_mem.1 hk).1⟩ }
set_option maxRecDepth 100000 in
set_option maxHeartbeats 4000000 in
theorem remove_early {w : World} {F : Nat → Prop} {t n : Nat} {T : TT} {L : Tab} {A : Option Addr} {c : Nat} {p : List Int} (he : Env w) (ht : TabAt w F t n T) (hI : IsT T L) (hp : Pa.PL w A c p) (hpl : p.length ≤ 10000000) (h : fnd L p = none ∨ p = []) :
  Calls Tryz.prog 26 #[.pointer (some ⟨t, 0, none⟩), .slice A p.length c] w (RetRem w F t n L p) := by
 have H75 := Lib.hid (find_read he (ht.read (Below.refl _ _)) hp hpl)
 have R80 : Hid (∀ W, Below w.heap.size w W → Calls Tryz.prog 80 #[.slice A p.length c] W (Pa.RetPar W p)) := fun W hW => Pa.parent_any (hp.on hW) hpl
 have HT := Lib.hid ht
 have HI := Lib.hid hI
 obtain ⟨o, ho⟩ : ∃ o, o = atT T (Pa.zText p) := ⟨_, rfl⟩
 obtain ⟨ok, hok⟩ : ∃ ok, ok = (T (Pa.zText p)).isSome := ⟨_, rfl⟩
 have HR : Hid (remR L p = if ok = false then (0, 30) else if p = [] then (0, 2) else ((cnt L p : Int), 0)) := by
  unfold Hid remR
  rw [hok, hI.at']
  cases fnd L p <;> rfl
 have HH : Hid (ok = false ∨ p = []) := h.imp (fun h => by rw [hok, hI.at', h]; rfl) id
 unfold RetFind at H75
 rw [← ho, ← hok] at H75
 clear he ht hp hpl h ho hok hI
 go_enter Tryz.func26, Tryz.ntmps26
 go_wp2_with fail
 refine H75.out.mono ?_
 rintro e w1 ⟨hb1, v1, rfl, hv1, -⟩
 have B1 := Lib.hid hb1
 obtain ⟨vk1, ⟨vl1, vb1, vo1, ve1, vm1, rfl, ⟨Al1, cl1, rfl, -⟩, ⟨Ab1, cb1, rfl, -⟩, ⟨Ao1, co1, rfl, -⟩, ⟨Ae1, ce1, rfl, -⟩, ⟨Am1, cm1, rfl, -⟩⟩, ⟨Ak1, ck1, rfl, -⟩⟩ := hv1
 have B2 : Hid (∀ O, Below w.heap.size w (w1.alloc O)) := fun O => next_below B1.out ((Below.refl _ _).alloc (Nat.le_refl _) O)
 have H80 := Lib.hid (fun O => R80.out _ (B2.out O))
 clear hb1
 cases ok with
 | false =>
  have HD : Hid (remR L p = (0, 30)) := HR.out.trans (if_pos rfl)
  go_wp2_with fail
  go_ret2
  exact RetRem.same HT.out HI.out (B2.out _) HD.out (by decide) rfl
 | true =>
  have HN := HH.out.resolve_left (by decide)
  have HD : Hid (remR L p = (0, 2)) := (HR.out.trans (if_neg (by decide))).trans (if_pos HN)
  have HNN := Lib.hid HN
  clear HN
  go_wp2_with fail
  refine (H80.out _).mono ?_
  rintro e w3 ⟨hb3, ⟨hp0, rfl⟩ | ⟨ys, z, v3, hpq, rfl, hr⟩⟩
  · have B3 := Lib.hid (next_below (B2.out _) hb3)
    clear hb3 hp0
    go_wp2_with fail
    go_ret2
    exact RetRem.same HT.out HI.out B3.out HD.out (by decide) rfl
  · rw [HNN.out] at hpq
    simp at hpq
set_option maxRecDepth 100000 in
set_option maxHeartbeats 2000000 in
theorem remove_deep {w : World} {F : Nat → Prop} {t bm n : Nat} {T : TT} {V K : List UInt8 → Value} {L : Tab} {A : Option Addr} {c : Nat} {p ys : List Int} {z : Int} {o b : Ob} (he : Env w) (hti : TabIs w F t bm n T V K) (hI : IsT T L) (hL : ValT L) (hF8 : ∀ x, F x → 8 ≤ x) (hll : L.length ≤ 1000000) (hn : n ≤ 10000000000) (hp : Pa.PL w A c p) (hpF : Sl w F A (Pa.zCellsOf p)) (hpl : p.length ≤ 10000000) (hpz : p = ys ++ [z]) (hfo : fnd L p = some o) (hfb : fnd L ys = some b) :
  Calls Tryz.prog 26 #[.pointer (some ⟨t, 0, none⟩), .slice A p.length c] w (RetRem w F t n L p) := by
 have ho : T (Pa.zText p) = some o := (hI.at' p).trans hfo
 have hb : T (Pa.zText ys) = some b := (hI.at' ys).trans hfb
 have hbok := hL.obAt hfb
 have hwb := hti.wide _ _ hb
 obtain ⟨k0, hk0, hk1⟩ : ∃ k ∈ b.kids, k.1 = z := by
  rw [hpz] at hfo
  obtain ⟨c', hc', k, hk, hk1, _⟩ := hL.entry hfo
  rw [hfb] at hc'
  cases hc'
  exact ⟨k, hk, hk1⟩
 have hyl : ys.length ≤ 10000000 := by have := congrArg List.length hpz; simp at this; omega
 have hywide : Pa.WideZ ys := fun x hx => hp.wide x (by rw [hpz]; exact List.mem_append_left _ hx)
 have hlen : (Pa.zText ys).length ≤ 100000000000 := by have := Pa.zText_len hywide; omega
 obtain ⟨vb, hvb⟩ : ∃ v, v = V (Pa.zText ys) := ⟨_, rfl⟩
 obtain ⟨kb, hkb⟩ : ∃ v, v = K (Pa.zText ys) := ⟨_, rfl⟩
 have hobk : ObjK w F vb kb b := by rw [hvb, hkb]; exact hti.ob _ _ hb
 have hrow : w.ownsRow 0 85 3 kb b.kids.length (kidCells b.kids) := by rw [hkb]; exact hti.row _ _ hb
 have hkbs : SlV w No kb b.kids.length (kidCells b.kids) := (slv_row hrow).on (Below.refl _ _) fun x _ hx => hx.elim
 have hbat : ObjAt w No vb b := ⟨kb, hobk.on (Below.refl _ _) (fun _ _ h => h.elim), hkbs⟩
 have H75 : Hid (Calls Tryz.prog 75 #[.pointer (some ⟨t, 0, none⟩), .slice A p.length c] w (fun e w' => Below w.heap.size w w' ∧ ∃ v, e = .returned (.tuple #[v, .bool true]) ∧ ObjAt w' No v o)) := by
  have h := find_read he (hti.read (Below.refl _ _)) hp hpl
  unfold RetFind atT at h
  rw [ho] at h
  exact h.mono fun e w' ⟨h1, v, h2, h3, _⟩ => ⟨h1, v, h2, h3⟩
 have R80 : Hid (∀ W, Below w.heap.size w W → Calls Tryz.prog 80 #[.slice A p.length c] W fun e w' => Below W.heap.size W w' ∧ ∃ A3 c3, e = .returned (.tuple #[.slice A3 ys.length c3, .int .i64 z, .bool true]) ∧ Pa.ZRow w' w.heap.size (.slice A3 ys.length c3) ys ∧ Pa.PL w' A3 c3 ys) := fun W hW => by
  refine (Pa.parent_any (hp.on hW) hpl).mono ?_
  rintro e w' ⟨h1, ⟨h2, _⟩ | ⟨ys', z', v, h2, rfl, hr⟩⟩
  · rw [hpz] at h2; simp at h2
  · obtain ⟨e1, e2⟩ := snoc_inj (hpz.symm.trans h2)
    subst e1 e2
    obtain ⟨A3, c3, rfl, hpl3⟩ := hr.pl hywide
    exact ⟨h1, A3, c3, rfl, own_base hr hW.size, hpl3⟩
 have R75 : Hid (∀ W A3 c3, Below w.heap.size w W → Pa.PL W A3 c3 ys → Calls Tryz.prog 75 #[.pointer (some ⟨t, 0, none⟩), .slice A3 ys.length c3] W (RetB W (.tuple #[vb, .bool true]))) := fun W A3 c3 hW h3 => by
  have h := find_is (he.on hW) (hti.on hW) h3 hyl hb
  rw [← hvb] at h
  exact h
 have PO : Hid (0 < b.kids.length) := List.length_pos_of_mem hk0
 obtain ⟨g, ck, rfl, -, hgl, -, -⟩ := row_cell hrow PO.out
 have hgF : F g := hti.inF _ _ hb g (by rw [← hkb]; rfl)
 have hgm : g ≠ bm := fun e => hti.map.not_row hrow (by rw [← e]; rfl)
 have hgo : ∀ s' o', T s' = some o' → s' ≠ Pa.zText ys → (K s').ownBlock ≠ some g := fun s' o' hs' hne => hti.dist _ s' b o' hb hs' (fun e => hne e.symm) g (by rw [← hkb]; rfl)
 have hLAST : p.getLastD 0 = z ∧ p.dropLast = ys := by
  rw [hpz]
  refine ⟨by rw [List.getLastD_eq_getLast?]; simp, List.dropLast_concat⟩
 have HR : Hid (remR L p = ((cnt L p : Int), 0)) := by
  unfold Hid remR
  rw [hfo]
  simp only
  rw [if_neg (by rw [hpz]; simp)]
 have HRL : Hid (remL L p = cut (lay L ys (dropKid b z)) p) := by
  unfold Hid remL
  rw [hLAST.1, hLAST.2, hfb]
 have R81 : Hid (∀ W, Below w.heap.size w W → Calls Tryz.prog 81 #[vb, .int .i64 z] W fun e w' => Below W.heap.size W w' ∧ ∃ (m : Nat) (k : Kd), e = .returned (.int .i64 (m : Int)) ∧ b.kids[m]? = some k ∧ k.1 = z) := fun W hW => by
  refine (place_any (n := z) (hbat.on hW fun _ _ h => h) hwb).mono ?_
  rintro e w' ⟨h1, y, rfl, hy⟩
  obtain ⟨m, k, rfl, hm, hk⟩ := ix_there hy hk0 hk1
  exact ⟨h1, m, k, rfl, hm, hk⟩
 have R82 : Hid (∀ (W : World) (m : Nat) (k : Kd), Below w.heap.size w W → b.kids[m]? = some k → k.1 = z → Calls Tryz.prog 82 #[.slice (some ⟨g, 0, none⟩) b.kids.length ck, .int .i64 (m : Int), .int .i64 ((m : Int) + 1)] W fun e w' => e = .returned (Value.slice (some ⟨g, 0, none⟩) (b.kids.length - 1) ck) ∧ w'.ownsRow 0 85 3 (Value.slice (some ⟨g, 0, none⟩) (b.kids.length - 1) ck) (b.kids.length - 1) (kidCells (dropK b.kids z)) ∧ Tp.Kp (fun x => x = g) W w') := fun W m k hW hm hk => by
  refine (deleteK_any (own_on hrow hW) (List.getElem?_eq_some_iff.1 hm).1 (by have := hbok.kids.1; omega)).mono ?_
  rintro e w' ⟨rfl, h2, h3⟩
  rw [← dropK_erase hbok.kids.2.2 hm hk] at h2
  exact ⟨rfl, h2, h3⟩
 have HLEN1 : Hid ((dropK b.kids z).length = b.kids.length - 1) := by
  obtain ⟨m, hm⟩ := List.getElem?_of_mem hk0
  have hml := (List.getElem?_eq_some_iff.1 hm).1
  unfold Hid
  rw [dropK_erase hbok.kids.2.2 hm hk1, List.length_append, List.length_take, List.length_drop]
  omega
 have HKL := Lib.hid hbok.kids.1
 have HKG : Hid ((K (Pa.zText ys)).ownBlock = some g) := by rw [Hid, ← hkb]; rfl
 have HTI := Lib.hid hti
 have HN := Lib.hid hn
 have HLEN := Lib.hid hlen
 have HOBK := Lib.hid hobk
 have HWB := Lib.hid hwb
 have HB := Lib.hid hb
 have HPZ := Lib.hid hpz
 have HE := Lib.hid he
 have HI := Lib.hid hI
 have HL := Lib.hid hL
 have HF8 := Lib.hid hF8
 have HLL := Lib.hid hll
 have HGF := Lib.hid hgF
 have HGM := Lib.hid hgm
 have HGO := Lib.hid hgo
 have HFO := Lib.hid hfo
 have HFB := Lib.hid hfb
 have HP := Lib.hid hp
 have HPF := Lib.hid hpF
 have HYW := Lib.hid hywide
 obtain ⟨vl1, vb1, vo1, ve1, vm1, rfl, ⟨Al1, cl1, rfl, -⟩, ⟨Ab1, cb1, rfl, -⟩, ⟨Ao1, co1, rfl, -⟩, ⟨Ae1, ce1, rfl, -⟩, ⟨Am1, cm1, rfl, -⟩⟩ := hobk
 obtain ⟨cx, hcx⟩ : ∃ cs : Array Value, cs = #[.int .i64 b.kind, .slice Al1 b.lab.length cl1, .slice (some ⟨g, 0, none⟩) b.kids.length ck, .int .i64 b.next, .slice Ab1 b.bytes.length cb1, .slice Ao1 b.own.length co1, .int .i64 b.cats, .slice Ae1 b.entry.length ce1, .int .i64 b.ring, .slice Am1 b.maps.length cm1] := ⟨_, rfl⟩
 have CX := Lib.hid hcx
 clear he hti hI hL hF8 hll hn hp hpF hpz ho hb hfo hfb hbok hwb hk0 hk1 hywide hlen hvb hkb hrow hkbs hbat hcx hgF hgm hgo hLAST
 go_enter Tryz.func26, Tryz.ntmps26
 go_wp2_with fail
 refine H75.out.mono ?_
 rintro e w1 ⟨hb1, v1, rfl, hv1⟩
 obtain ⟨vk, ⟨vl, vy, vo, ve, vm, rfl, ⟨Al, cl, rfl, -⟩, ⟨Ab, cb, rfl, -⟩, ⟨Ao, co, rfl, -⟩, ⟨Ae, ce, rfl, -⟩, ⟨Am, cm, rfl, -⟩⟩, ⟨Ak, cok, rfl, -⟩⟩ := hv1
 have B2 := Lib.hid (fun O => next_below hb1 ((Below.refl _ _).alloc (Nat.le_refl _) O))
 have H80 := Lib.hid (fun O => R80.out _ (B2.out O))
 clear hb1 H75
 go_wp2_with fail
 refine (H80.out _).mono ?_
 rintro e w3 ⟨hb3, A3, c3, rfl, hz3, hp3⟩
 have B3 := Lib.hid (next_below (B2.out _) hb3)
 have P3 := Lib.hid hp3
 have Z3 := Lib.hid hz3
 clear hb3 hp3 hz3
 go_wp2_with fail
 refine (R75.out _ _ _ B3.out P3.out).mono ?_
 rintro e w4 ⟨rfl, hb4⟩
 have Z4 := Lib.hid (own_on (show w3.ownsRow w.heap.size 3 1 _ _ _ from Z3.out) hb4)
 have B5 : Hid (Below w.heap.size w (w4.alloc (.cells cx 29))) := next_below (next_below B3.out hb4) ((Below.refl _ _).alloc (Nat.le_refl _) _)
 have Z5 := Lib.hid (own_on Z4.out ((Below.refl w4.heap.size w4).alloc (Nat.le_refl _) (.cells cx 29)))
 have X5 := Lib.hid (BoxAt.new w4 cx 29)
 have hn4 : w.heap.size ≤ w4.heap.size := (next_below B3.out hb4).size
 have h81 := R81.out _ B5.out
 have x5 := X5.out
 rw [CX.out] at h81 x5
 have H81 := Lib.hid h81
 obtain ⟨r0, r1, r2, r3, r4, r5, r6, r7, r8, r9⟩ := box10 x5
 clear hb4 h81 x5
 go_wp2_with fail
 refine H81.out.mono ?_
 rintro e w8 ⟨hb8, m, k, rfl, hm, hk⟩
 rw [← CX.out] at hb8
 have B8 := Lib.hid (next_below B5.out hb8)
 have Z8 := Lib.hid (own_on Z5.out hb8)
 have X8 := Lib.hid (X5.out.on hb8)
 have x8 := X8.out
 rw [CX.out] at x8
 obtain ⟨s0, s1, s2, s3, s4, s5, s6, s7, s8, s9⟩ := box10 x8
 have H82 := Lib.hid (R82.out _ m k B8.out hm hk)
 have hml := (List.getElem?_eq_some_iff.1 hm).1
 have hkl := HKL.out
 clear hb8 hm hk x8 r0 r1 r2 r3 r4 r5 r6 r7 r8 r9 H81
 go_wp2_with fail
 refine H82.out.mono ?_
 rintro e w9 ⟨rfl, hown9, hk9⟩
 have hX9 := X8.out.kp hk9 (by have := B5.out.size; omega)
 rw [CX.out] at hX9
 have f9 := hX9.frozen 2
 have hX10 := hX9.setL 2 (Value.slice (some ⟨g, 0, none⟩) (b.kids.length - 1) ck)
 simp only [List.set_cons_zero, List.set_cons_succ] at hX10
 obtain ⟨y0, y1, y2, y3, y4, y5, y6, y7, y8, y9⟩ := box10 hX9
 have z9 := own_kp Z8.out hk9 fun j hj e => by have := (own_block Z8.out hj).1; omega
 have hkc : Tp.Kp (fun x => x = w4.heap.size) w9 (w9.setCell ⟨w4.heap.size, 2, none⟩ (Value.slice (some ⟨g, 0, none⟩) (b.kids.length - 1) ck)) := (Tp.Kp.refl (fun x => x = w4.heap.size) w9).setCell (p := ⟨w4.heap.size, 2, none⟩) (fun _ => rfl) _
 have z10 := own_kp z9 hkc fun j hj e => box_row hX9 z9 (by decide) (by rw [hj, e])
 have o10 := own_kp hown9 hkc fun j hj e => by
  injection hj with hj
  simp only at hj
  have := X8.out.lt
  omega
 have hk10 : Tp.Kp (fun x => x = g) w (w9.setCell ⟨w4.heap.size, 2, none⟩ (Value.slice (some ⟨g, 0, none⟩) (b.kids.length - 1) ck)) := ((Tp.Kp.of_below B8.out _).andThen hk9 (fun _ _ h => h)).setCell (p := ⟨w4.heap.size, 2, none⟩) (fun h => absurd h (by simp only; omega)) _
 have X10 := Lib.hid hX10
 have O10 := Lib.hid o10
 have K10 := Lib.hid hk10
 have Z10 := Lib.hid z10
 have h4l : w.heap.size ≤ w4.heap.size := hn4
 clear hk9 hX9 hX10 hown9 H82 s0 s1 s2 s3 s4 s5 s6 s7 s8 s9 z9 z10 o10 hkc hk10
 go_wp2_with fail
 clear y0 y1 y2 y3 y4 y5 y6 y7 y8 y9 f9
 obtain ⟨Wb, hWb⟩ : ∃ W, W = w9.setCell ⟨w4.heap.size, 2, none⟩ (Value.slice (some ⟨g, 0, none⟩) (b.kids.length - 1) ck) := ⟨_, rfl⟩
 rw [← hWb]
 rw [← hWb] at X10 O10 K10 Z10
 clear hWb
 have E10 : Env Wb := HE.out.below (K10.out.below HE.out.1 fun k e => by rw [e]; exact HF8.out _ HGF.out) (Nat.le_refl _)
 obtain ⟨A3', c3', hA3, hpl3⟩ := Pa.ZRow.pl (show Pa.ZRow Wb w.heap.size _ ys from Z10.out) HYW.out
 injection hA3 with e1 _ e3
 subst e1 e3
 have HXT := Lib.hid (HTI.out.but (s := Pa.zText ys) K10.out fun x _ e => by subst e; exact ⟨HGF.out, HGM.out, HGO.out⟩)
 obtain ⟨S, hS⟩ : ∃ S, S = str (Pa.zText ys) := ⟨_, rfl⟩
 have R68 : Hid (∀ W, Below Wb.heap.size Wb W → Calls Tryz.prog 68 #[.slice A3 ys.length c3] W (RetB W (.string S))) := fun W hW => by
  rw [hS]
  exact Pa.text_any (E10.on hW) (hpl3.on hW).zs HYW.out hyl
 have hrun : ∀ W, Below Wb.heap.size Wb W → (∀ v, (Instr.mapUpdate 72 (.map (some bm)) (.string S) v).run Tryz.prog W = .ok () (putW bm (Pa.zText ys) v W)) := fun W hW v => by
  rw [hS]
  exact ((HXT.out.map.on hW).put (by have := HN.out; omega) HLEN.out v).1
 have hrun2 : ∀ W u, Below Wb.heap.size Wb W → (∀ v, (Instr.mapUpdate 72 (.map (some bm)) (.string S) v).run Tryz.prog (putW bm (Pa.zText ys) u W) = .ok () (putW bm (Pa.zText ys) v (putW bm (Pa.zText ys) u W))) := fun W u hW v => by
  rw [hS]
  exact ((((HXT.out.map.on hW).put (by have := HN.out; omega) HLEN.out u).2.1 b).put (by have := HN.out; omega) HLEN.out v).1
 have htl := World.block_lt_of_cell? Wb _ HXT.out.var
 have hv0 := HXT.out.var
 have mk : ∀ W, Below Wb.heap.size Wb W → BoxAt W w4.heap.size #[.int .i64 b.kind, .slice Al1 b.lab.length cl1, Value.slice (some ⟨g, 0, none⟩) (b.kids.length - 1) ck, .int .i64 b.next, .slice Ab1 b.bytes.length cb1, .slice Ao1 b.own.length co1, .int .i64 b.cats, .slice Ae1 b.entry.length ce1, .int .i64 b.ring, .slice Am1 b.maps.length cm1] 29 → W.cell? ⟨t, 0, none⟩ = some (.map (some bm)) ∧ W.cell? ⟨w4.heap.size, 0, none⟩ = some (.int .i64 b.kind) ∧ W.cell? ⟨w4.heap.size, 1, none⟩ = some (.slice Al1 b.lab.length cl1) ∧ W.cell? ⟨w4.heap.size, 2, none⟩ = some (Value.slice (some ⟨g, 0, none⟩) (b.kids.length - 1) ck) ∧ W.cell? ⟨w4.heap.size, 3, none⟩ = some (.int .i64 b.next) ∧ W.cell? ⟨w4.heap.size, 4, none⟩ = some (.slice Ab1 b.bytes.length cb1) ∧ W.cell? ⟨w4.heap.size, 5, none⟩ = some (.slice Ao1 b.own.length co1) ∧ W.cell? ⟨w4.heap.size, 6, none⟩ = some (.int .i64 b.cats) ∧ W.cell? ⟨w4.heap.size, 7, none⟩ = some (.slice Ae1 b.entry.length ce1) ∧ W.cell? ⟨w4.heap.size, 8, none⟩ = some (.int .i64 b.ring) ∧ W.cell? ⟨w4.heap.size, 9, none⟩ = some (.slice Am1 b.maps.length cm1) ∧ (∀ v, (Instr.mapUpdate 72 (.map (some bm)) (.string S) v).run Tryz.prog W = .ok () (putW bm (Pa.zText ys) v W)) := fun W hW hX => by
  obtain ⟨q0, q1, q2, q3, q4, q5, q6, q7, q8, q9⟩ := box10 hX
  exact ⟨(hW.cell (p := ⟨t, 0, none⟩) htl).trans hv0, q0, q1, q2, q3, q4, q5, q6, q7, q8, q9, hrun W hW⟩
 have mkP : ∀ W u, Below Wb.heap.size Wb W → BoxAt W w4.heap.size #[.int .i64 b.kind, .slice Al1 b.lab.length cl1, Value.slice (some ⟨g, 0, none⟩) (b.kids.length - 1) ck, .int .i64 b.next, .slice Ab1 b.bytes.length cb1, .slice Ao1 b.own.length co1, .int .i64 b.cats, .slice Ae1 b.entry.length ce1, .int .i64 b.ring, .slice Am1 b.maps.length cm1] 29 → (putW bm (Pa.zText ys) u W).cell? ⟨t, 0, none⟩ = some (.map (some bm)) ∧ (putW bm (Pa.zText ys) u W).cell? ⟨w4.heap.size, 0, none⟩ = some (.int .i64 b.kind) ∧ (putW bm (Pa.zText ys) u W).cell? ⟨w4.heap.size, 1, none⟩ = some (.slice Al1 b.lab.length cl1) ∧ (putW bm (Pa.zText ys) u W).cell? ⟨w4.heap.size, 2, none⟩ = some (Value.slice (some ⟨g, 0, none⟩) (b.kids.length - 1) ck) ∧ (putW bm (Pa.zText ys) u W).cell? ⟨w4.heap.size, 3, none⟩ = some (.int .i64 b.next) ∧ (putW bm (Pa.zText ys) u W).cell? ⟨w4.heap.size, 4, none⟩ = some (.slice Ab1 b.bytes.length cb1) ∧ (putW bm (Pa.zText ys) u W).cell? ⟨w4.heap.size, 5, none⟩ = some (.slice Ao1 b.own.length co1) ∧ (putW bm (Pa.zText ys) u W).cell? ⟨w4.heap.size, 6, none⟩ = some (.int .i64 b.cats) ∧ (putW bm (Pa.zText ys) u W).cell? ⟨w4.heap.size, 7, none⟩ = some (.slice Ae1 b.entry.length ce1) ∧ (putW bm (Pa.zText ys) u W).cell? ⟨w4.heap.size, 8, none⟩ = some (.int .i64 b.ring) ∧ (putW bm (Pa.zText ys) u W).cell? ⟨w4.heap.size, 9, none⟩ = some (.slice Am1 b.maps.length cm1) ∧ (∀ v, (Instr.mapUpdate 72 (.map (some bm)) (.string S) v).run Tryz.prog (putW bm (Pa.zText ys) u W) = .ok () (putW bm (Pa.zText ys) v (putW bm (Pa.zText ys) u W))) := fun W u hW hX => by
  have hK : Tp.Kp (fun b => b = bm) W (putW bm (Pa.zText ys) u W) := (Tp.Kp.refl _ W).grown ((HXT.out.map.on hW).put (by have := HN.out; omega) HLEN.out u).2.2 fun k e _ => by injection e with e; exact e.symm
  have hbl := HTI.out.map.lt
  have hX := hX.kp hK (fun e => by omega)
  obtain ⟨q0, q1, q2, q3, q4, q5, q6, q7, q8, q9⟩ := box10 hX
  exact ⟨hK.cell ((hW.cell (p := ⟨t, 0, none⟩) htl).trans hv0) (fun e => HTI.out.notF (by rw [show t = bm from e]; exact HTI.out.isF)), q0, q1, q2, q3, q4, q5, q6, q7, q8, q9, hrun2 W u hW⟩
 have hb0 : Below Wb.heap.size Wb Wb := Below.refl _ _
 have hdr : Below Wb.heap.size Wb Wb.drew := (Below.refl _ _).drew
 have x10 := X10.out
 have xdr := X10.out.drew
 have HPL := Lib.hid hpl3
 clear hS hrun hrun2 hpl3 E10
 go_region_held3 (fun W => W.cell? ⟨t, 0, none⟩ = some (.map (some bm)) ∧ W.cell? ⟨w4.heap.size, 0, none⟩ = some (.int .i64 b.kind) ∧ W.cell? ⟨w4.heap.size, 1, none⟩ = some (.slice Al1 b.lab.length cl1) ∧ W.cell? ⟨w4.heap.size, 2, none⟩ = some (Value.slice (some ⟨g, 0, none⟩) (b.kids.length - 1) ck) ∧ W.cell? ⟨w4.heap.size, 3, none⟩ = some (.int .i64 b.next) ∧ W.cell? ⟨w4.heap.size, 4, none⟩ = some (.slice Ab1 b.bytes.length cb1) ∧ W.cell? ⟨w4.heap.size, 5, none⟩ = some (.slice Ao1 b.own.length co1) ∧ W.cell? ⟨w4.heap.size, 6, none⟩ = some (.int .i64 b.cats) ∧ W.cell? ⟨w4.heap.size, 7, none⟩ = some (.slice Ae1 b.entry.length ce1) ∧ W.cell? ⟨w4.heap.size, 8, none⟩ = some (.int .i64 b.ring) ∧ W.cell? ⟨w4.heap.size, 9, none⟩ = some (.slice Am1 b.maps.length cm1) ∧ (∀ v, (Instr.mapUpdate 72 (.map (some bm)) (.string S) v).run Tryz.prog W = .ok () (putW bm (Pa.zText ys) v W)))
  (first | with_reducible exact mkP _ _ B11.out x11 | with_reducible exact mk _ B11.out x11 | with_reducible exact mk _ hdr xdr | with_reducible exact mk _ hb0 x10)
  (first | (go_at_call 68; refine (R68.out _ hdr).mono ?_; rintro e W11 ⟨rfl, hb11⟩; have B11 := Lib.hid (next_below hdr hb11); have x11 := xdr.on hb11; clear hb11))
 clear mk mkP hdr xdr x10 x11 hb0 hv0
 have hgF : ∀ x, (Value.slice (some ⟨g, 0, none⟩) (b.kids.length - 1) ck).ownBlock = some x → F x := fun x e => by
  injection e with e
  rw [← e]
  exact HGF.out
 have hX11 := HXT.out.on B11.out
 have hob : ObjK W11 (fun x => F x ∨ (Value.slice (some ⟨g, 0, none⟩) (b.kids.length - 1) ck).ownBlock = some x) (.agg #[.int .i64 b.kind, .slice Al1 b.lab.length cl1, Value.slice (some ⟨g, 0, none⟩) (b.kids.length - 1) ck, .int .i64 b.next, .slice Ab1 b.bytes.length cb1, .slice Ao1 b.own.length co1, .int .i64 b.cats, .slice Ae1 b.entry.length ce1, .int .i64 b.ring, .slice Am1 b.maps.length cm1]) (Value.slice (some ⟨g, 0, none⟩) (b.kids.length - 1) ck) (dropKid b z) := ((HOBK.out.kp K10.out (fun x _ e => by rw [e]; exact HGF.out) (fun _ _ h => h)).dropK).on B11.out fun x _ hx => hx.elim id (hgF x)
 have hrow : W11.ownsRow 0 85 3 (Value.slice (some ⟨g, 0, none⟩) (b.kids.length - 1) ck) (dropKid b z).kids.length (kidCells (dropKid b z).kids) := by
  show W11.ownsRow 0 85 3 _ (dropK b.kids z).length (kidCells (dropK b.kids z))
  rw [HLEN1.out]
  exact own_on O10.out B11.out
 obtain ⟨hti11, hkp11⟩ := hX11.put (by have := HN.out; omega) HLEN.out (v := .agg #[.int .i64 b.kind, .slice Al1 b.lab.length cl1, Value.slice (some ⟨g, 0, none⟩) (b.kids.length - 1) ck, .int .i64 b.next, .slice Ab1 b.bytes.length cb1, .slice Ao1 b.own.length co1, .int .i64 b.cats, .slice Ae1 b.entry.length ce1, .int .i64 b.ring, .slice Am1 b.maps.length cm1]) (vk := Value.slice (some ⟨g, 0, none⟩) (b.kids.length - 1) ck) (o := dropKid b z) (wide_dropK HWB.out) hob hrow
  (fun x e => .inr ⟨by rw [HB.out]; rfl, by rw [HKG.out]; exact e⟩)
  (fun s' o' h' hne => (hX11.ob s' o' h' hne).on (Below.refl _ _) fun x _ hx => hx.elim id (hgF x))
  (fun e => HTI.out.notF (hgF _ e))
 have hkF : Tp.Kp F w (putW bm (Pa.zText ys) (.agg #[.int .i64 b.kind, .slice Al1 b.lab.length cl1, Value.slice (some ⟨g, 0, none⟩) (b.kids.length - 1) ck, .int .i64 b.next, .slice Ab1 b.bytes.length cb1, .slice Ao1 b.own.length co1, .int .i64 b.cats, .slice Ae1 b.entry.length ce1, .int .i64 b.ring, .slice Am1 b.maps.length cm1]) W11) := ((K10.out.more fun x _ e => by rw [e]; exact HGF.out).andThen (Tp.Kp.of_below B11.out F) (fun _ _ h => h)).andThen hkp11 fun x _ e => by rw [e]; exact HTI.out.isF
 have hA := HL.out.asc
 have hpre : ¬ p <+: ys := fun e => by
  have h1 := e.length_le
  have h2 := congrArg List.length HPZ.out
  rw [List.length_append, List.length_singleton] at h2
  omega
 have hT1 : ∀ q, p <+: q → updT T (Pa.zText ys) (dropKid b z) (Pa.zText q) = fnd L q := fun q hq => by
  unfold updT
  rw [if_neg (fun e => by have := zText_inj e; rw [this] at hq; exact hpre hq), HI.out.at']
 have H83 := Lib.hid (removeAll_any (p := p) (c := c) (A := A) (HE.out.below (hkF.below HE.out.1 HF8.out) (Nat.le_refl _)) hti11 HL.out (HF8.out _ HTI.out.isF) HLL.out
  ⟨((HPF.out.kp hkF (fun _ _ h => h) (fun _ _ h => h)).zs), HP.out.nil, HP.out.cap, HP.out.wide⟩ (by rw [HFO.out]; rfl) hT1 (HI.out.upd hA ys (dropKid b z)).key)
 have HKF := Lib.hid hkF
 have HGX := Lib.hid hgF
 clear hX11 hob hrow hti11 hkp11 hkF hA hpre hT1 hgF
 go_wp2_with fail
 refine H83.out.mono ?_
 rintro e w12 ⟨rfl, T', hR12, ht12, hk12⟩
 have HR12 := Lib.hid hR12
 have HT12 := Lib.hid ht12
 have HK12 := Lib.hid hk12
 clear hR12 ht12 hk12 H83
 go_wp2_with fail
 go_ret2
 refine ⟨by rw [HR.out]; rfl, _, T', ⟨bm, _, _, HT12.out⟩, ⟨HKF.out.andThen HK12.out fun x _ e => by rw [e]; exact HTI.out.isF, fun x hx => .inl (hx.elim id (HGX.out x))⟩, ?_⟩
 rw [HR.out, if_pos rfl, HRL.out]
 exact HR12.out.last (lay_asc HL.out.asc _ _) (HI.out.upd HL.out.asc _ _)
theorem remove_any {w : World} {F : Nat → Prop} {t n : Nat} {T : TT} {L : Tab} {A : Option Addr} {c : Nat} {p : List Int} (he : Env w) (ht : TabAt w F t n T) (hI : IsT T L) (hL : ValT L) (hF8 : ∀ x, F x → 8 ≤ x) (hll : L.length ≤ 1000000) (hn : n ≤ 10000000000) (hp : Pa.PL w A c p) (hpF : Sl w F A (Pa.zCellsOf p)) (hpl : p.length ≤ 10000000) :
  Calls Tryz.prog 26 #[.pointer (some ⟨t, 0, none⟩), .slice A p.length c] w (RetRem w F t n L p) := by
 cases hfo : fnd L p with
 | none => exact remove_early he ht hI hp hpl (.inl hfo)
 | some o =>
  by_cases h : p = []
  · exact remove_early he ht hI hp hpl (.inr h)
  · obtain ⟨bm, V, K, hti⟩ := ht
    have hpz := (List.dropLast_concat_getLast h).symm
    have hfo2 := hfo
    rw [hpz] at hfo2
    obtain ⟨b, hb, _⟩ := hL.entry hfo2
    exact remove_deep he hti hI hL hF8 hll hn hp hpF hpl hpz hfo hb
end Go.Proofs.YtgcbfggoddkhnaaGreatDoor
