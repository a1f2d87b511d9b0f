/- strings.SplitSeq with a point between the parts: what its iterator gives. -/
import Derived.Test.YtoegmajkfaokdaaDoorB
import Derived.Test.YtoegmajkfaokdaaDoorC
import Derived.RangeFuncCalls
import Derived.Shelf.Abstract
import Derived.Shelf.RegionOpen
import Derived.OwnWalkIn
import Derived.TacticsInMore
import Derived.LoopNIn
import Derived.LoopIn
namespace Go.Proofs.YtoegmajkfaokdaaDoor
open Go.RowKit Go.Shelf

attribute [local go_sem] Oper.semAt_some

theorem indexByte_one : ∀ (a b : List UInt8) (c : UInt8), c ∉ a → Lib.indexByte (a ++ c :: b) c = a.length
  | [], b, c, _ => by simp [Lib.indexByte]
  | x :: a, b, c, h => by
    have hx : ¬ x = c := fun e => h (by simp [e])
    have ih := indexByte_one a b c (fun e => h (by simp [e]))
    simp only [List.cons_append, Lib.indexByte]
    rw [if_neg (by simpa using hx), ih, if_neg (by simp)]
    simp
theorem indexByte_no : ∀ (a : List UInt8) (c : UInt8), c ∉ a → Lib.indexByte a c = -1
  | [], c, _ => by simp [Lib.indexByte]
  | x :: a, c, h => by
    have hx : ¬ x = c := fun e => h (by simp [e])
    have ih := indexByte_no a c (fun e => h (by simp [e]))
    simp only [Lib.indexByte]
    rw [if_neg (by simpa using hx), ih]
    simp

theorem slice_to {r : ByteArray} {a b : List UInt8} (h : r = str (a ++ b)) (W : World) : (Instr.slice 9 (.string r) none (some (.int .i64 (a.length : Int))) none).run Tryd.prog W = .ok (.string (str a)) W := by
  subst h
  rw [run_slice_string_h W 9 _ Tryd.underlying9 .i64 _ (by omega) (by rw [str_size, List.length_append]; omega)]
  congr 2
  apply ByteArray.ext
  simp [str, ByteArray.data_extract]
theorem slice_from {r : ByteArray} {a b : List UInt8} (h : r = str (a ++ 46 :: b)) (W : World) : (Instr.slice 9 (.string r) (some (.int .i64 ((a.length : Int) + 1))) none none).run Tryd.prog W = .ok (.string (str b)) W := by
  subst h
  rw [run_slice_string_l W 9 _ Tryd.underlying9 .i64 _ (by omega) (by rw [str_size]; simp; omega)]
  have e : ((a.length : Int) + 1).toNat = a.length + 1 := by omega
  rw [e]
  congr 2
  apply ByteArray.ext
  simp [str, ByteArray.data_extract, ByteArray.size]
  exact List.take_of_length_le (by omega)

/-- How long the string in block N is. -/
def leftIn (W : World) (N : Nat) : Nat :=
  match W.cell? ⟨N, 0, none⟩ with
  | some (.string s) => s.size
  | _ => 0
theorem leftIn_eq {W : World} {N : Nat} {r : List UInt8} (h : Boxed W N 9 (.string (str r))) : leftIn W N = r.length := by
  unfold leftIn
  rw [h.cell]
  exact str_size r

/-- The iterator's three variables. -/
def Vars (W : World) (N : Nat) (r : List UInt8) : Prop := Boxed W N 9 (.string (str r)) ∧ Boxed W (N + 1) 9 (.string ⟨#[46]⟩) ∧ Boxed W (N + 2) 3 (.int .i64 0)
/-- Its three blocks lie as they lay. -/
def Trio (N : Nat) (W W' : World) : Prop := ∀ k, N ≤ k → k ≤ N + 2 → k < W.heap.size → W'.heap[k]? = W.heap[k]?
theorem Trio.trans {N : Nat} {A B C : World} (h : Trio N A B) (h' : Trio N B C) : Trio N A C := fun k h1 h2 h3 => by
  have e := h k h1 h2 h3
  refine (h' k h1 h2 ?_).trans e
  have : B.heap[k]? = some (A.heap[k]'h3) := by rw [e, Array.getElem?_eq_getElem h3]
  exact (Array.getElem?_eq_some_iff.1 this).1
theorem Vars.kept {W W' : World} {N : Nat} {r : List UInt8} (h : Vars W N r) (hk : Trio N W W') : Vars W' N r :=
  ⟨(hk N (by omega) (by omega) h.1.lt).trans h.1, (hk (N + 1) (by omega) (by omega) h.2.1.lt).trans h.2.1, (hk (N + 2) (by omega) (by omega) h.2.2.lt).trans h.2.2⟩
theorem Vars.set {W : World} {N : Nat} {r : List UInt8} (h : Vars W N r) (q : List UInt8) : Vars (W.setCell ⟨N, 0, none⟩ (.string (str q))) N q :=
  ⟨h.1.set _, h.2.1.other (by omega) _, h.2.2.other (by omega) _⟩

/-- What the iterator does between two rounds. -/
def Steps (N : Nat) (A B : World) : Prop := A.grownBy B (some N) ∧ A.drawn ≤ B.drawn

set_option maxRecDepth 100000 in
set_option maxHeartbeats 2000000 in
theorem split_in (n : Nat) (hn : 1 ≤ n) (l N : Nat) (s0 : List UInt8) (hs : s0.length ≤ 140737488351232) (J Jx : List (List UInt8) → World → Prop) (hJ : ∀ p A B, J p A → Steps N A B → J p B)
    (hY : ∀ pre x W1, J pre W1 → x.length ≤ 140737488351232 → YieldAt Fence.wide (n - 1) Tryd.prog l #[.string (str x)] W1 fun e W' =>
      (e = .returned (.bool true) ∧ J (pre ++ [x]) W' ∧ Trio N W1 W') ∨ (e = .returned (.bool false) ∧ Jx (pre ++ [x]) W'))
    (W : World) (hV : Vars W N s0) (h0 : J [] W) :
    CallsIn Fence.wide n Tryd.prog 62 #[.func (.yield l) #[] #[], .pointer (some ⟨N + 1, 0, none⟩), .pointer (some ⟨N, 0, none⟩), .pointer (some ⟨N + 2, 0, none⟩)] W fun e W' => (∃ v, e = .returned v) ∧
      ((∃ ys, ys = split s0 ∧ J ys W') ∨ (∃ pre, pre <+: split s0 ∧ Jx pre W')) := by
  refine callsIn_of_wp Tryd.func62 rfl trivial ?_ rfl
  simp only [Tryd.ntmps62, List.size_toArray, List.length_cons, List.length_nil, Nat.reduceAdd, Nat.reduceSub, Array.replicate_succ, Array.replicate_zero, List.push_toArray, List.append_toArray, List.nil_append, List.cons_append]
  have c2 := hV.2.1.cell
  have HV := Lib.hid hV
  have HJ0 := Lib.hid h0
  have HJ := Lib.hid hJ
  have HY := Lib.hid hY
  clear hV h0 hJ hY
  gi_wp2
  gi_loopw [7] (fun _ wr => ∃ pre r, split s0 = pre ++ split r ∧ r.length ≤ s0.length ∧ Vars wr N r ∧ J pre wr) (fun _ wr => leftIn wr N)
  case atStart => exact ⟨[], s0, rfl, Nat.le_refl _, HV.out, HJ0.out⟩
  case round =>
    obtain ⟨pre, r, hx, hr, hv, hj⟩ := hrel
    have c0 := hv.1.cell
    have f0 := hv.1.frozen
    have c1 := hv.2.1.cell
    have c3 := hv.2.2.cell
    have HX := Lib.hid hx
    have HVr := Lib.hid hv
    by_cases hd : 46 ∈ r
    · obtain ⟨a, b, hab, hna⟩ := part_at r 46 hd
      have hi := indexByte_one a b 46 hna
      have H67 := Lib.hid (Tryd.strings_Index_one (str r) 46 wr)
      rw [str_list, hab, hi] at H67
      obtain ⟨q, hq⟩ : ∃ q, q = str (a ++ 46 :: b) := ⟨_, rfl⟩
      have s1 := slice_to (a := a) (b := 46 :: b) hq
      have s2 := slice_from (a := a) (b := b) hq
      have hal : a.length ≤ 140737488351232 := by rw [hab, List.length_append] at hr; omega
      have HB : Hid (b.length < r.length ∧ b.length ≤ s0.length) := by rw [hab] at hr ⊢; simp at hr ⊢; unfold Hid; omega
      have HS : Hid (split s0 = (pre ++ [a]) ++ split b) := by rw [Hid, hx, hab, split_some a b hna]; simp
      have HL := Lib.hid (leftIn_eq hv.1)
      obtain ⟨fn, tmps, assign, body, hy, hR⟩ := HY.out pre a wr hj hal
      have HR := Lib.hid hR
      have HQ : Hid (str r = q) := by rw [Hid, hab, hq]
      rw [hab, ← hq] at c0
      rw [← hq] at H67
      clear hab hx hr hv hd hi hna hR hq
      gi_wp2_with (refine ⟨trivial, ?_⟩; gi_at_call 64; refine (callsIn_wide.2 H67.out).mono ?_; rintro e w' ⟨rfl, rfl⟩)
      refine HR.out.mono ?_
      rintro e W3 (⟨rfl, hJ3, hk3⟩ | ⟨rfl, hJx3⟩)
      · have V3 := Lib.hid (HVr.out.kept hk3)
        have d0 := V3.out.1.cell
        rw [HQ.out] at d0
        have e0 := V3.out.1.frozen
        have d1 := V3.out.2.1.cell
        clear c0 f0 c1 c3 hy hk3
        gi_wp2
        go_roundw
        case rel => exact ⟨pre ++ [a], b, HS.out, HB.out.2, V3.out.set b, HJ.out _ _ _ hJ3 ⟨grownBy_setCell' _ _ _, Nat.le_refl _⟩⟩
        case measure => rw [leftIn_eq (V3.out.set b).1, HL.out]; exact HB.out.1
      · gi_wp2
        refine bodyPost_ret (results_none rfl _ _ _) rfl ?_
        exact ⟨⟨_, rfl⟩, .inr ⟨pre ++ [a], ⟨split b, HS.out.symm⟩, hJx3⟩⟩
    · have hi := indexByte_no r 46 hd
      have H67 := Lib.hid (Tryd.strings_Index_one (str r) 46 wr)
      rw [str_list, hi] at H67
      have HS : Hid (split s0 = pre ++ [r]) := by rw [Hid, hx, split_none r hd]
      obtain ⟨fn, tmps, assign, body, hy, hR⟩ := HY.out pre r wr hj (by omega)
      have HR := Lib.hid hR
      clear hx hr hv hd hi hR
      gi_wp2_with (refine ⟨trivial, ?_⟩; gi_at_call 64; refine (callsIn_wide.2 H67.out).mono ?_; rintro e w' ⟨rfl, rfl⟩)
      refine HR.out.mono ?_
      rintro e W3 (⟨rfl, hJ3, hk3⟩ | ⟨rfl, hJx3⟩)
      · gi_wp2
        go_end0
        exact ⟨⟨_, rfl⟩, .inl ⟨pre ++ [r], HS.out.symm, hJ3⟩⟩
      · gi_wp2
        go_end0
        exact ⟨⟨_, rfl⟩, .inr ⟨pre ++ [r], by rw [HS.out]; exact List.prefix_refl _, hJx3⟩⟩

theorem split_gives (n : Nat) (hn : 1 ≤ n) (N : Nat) (s0 : List UInt8) (hs : s0.length ≤ 140737488351232) (w : World) (hV : Vars w N s0) :
    Gives Fence.wide n Tryd.prog 62 #[.pointer (some ⟨N + 1, 0, none⟩), .pointer (some ⟨N, 0, none⟩), .pointer (some ⟨N + 2, 0, none⟩)] (fun x : List UInt8 => #[Value.string (str x)]) (Trio N) (Steps N)
      (fun ys => ys = split s0) (fun pre => pre <+: split s0) (fun _ x => x.length ≤ 140737488351232) w :=
  fun l J Jx W hk hJ _ hY h0 => split_in n hn l N s0 hs J Jx hJ hY W (hV.kept hk) h0

theorem splitSeq45_any (s : ByteArray) (w : World) : Calls Tryd.prog 49 #[.string s, .string ⟨#[46]⟩, .int .i64 0] w fun e w' =>
    e = .returned (.func (.func 62) #[] #[.pointer (some ⟨w.heap.size + 1, 0, none⟩), .pointer (some ⟨w.heap.size, 0, none⟩), .pointer (some ⟨w.heap.size + 2, 0, none⟩)]) ∧
    w' = ((w.alloc (.cells #[.string s] 9)).alloc (.cells #[.string ⟨#[46]⟩] 9)).alloc (.cells #[.int .i64 0] 3) := by
  go_enter Tryd.func49, Tryd.ntmps49
  go_wp2_with fail
  go_ret
  exact ⟨rfl, rfl⟩
theorem splitSeq_any (s : ByteArray) (w : World) : Calls Tryd.prog 32 #[.string s, .string ⟨#[46]⟩] w fun e w' =>
    e = .returned (.func (.func 62) #[] #[.pointer (some ⟨w.heap.size + 1, 0, none⟩), .pointer (some ⟨w.heap.size, 0, none⟩), .pointer (some ⟨w.heap.size + 2, 0, none⟩)]) ∧
    w' = ((w.alloc (.cells #[.string s] 9)).alloc (.cells #[.string ⟨#[46]⟩] 9)).alloc (.cells #[.int .i64 0] 3) := by
  go_enter Tryd.func32, Tryd.ntmps32
  go_wp2_with fail
  refine (splitSeq45_any s w).mono ?_
  rintro e w' ⟨rfl, rfl⟩
  go_wp2_with fail
  go_ret
  exact ⟨rfl, rfl⟩
end Go.Proofs.YtoegmajkfaokdaaDoor
