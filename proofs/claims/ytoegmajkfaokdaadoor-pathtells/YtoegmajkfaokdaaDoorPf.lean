/- path.prefixes: what its iterator gives; path.Below. -/
import Derived.Test.YtoegmajkfaokdaaDoorSm
import Derived.Test.YtoegmajkfaokdaaDoorD
namespace Go.Proofs.YtoegmajkfaokdaaDoor
open Go.RowKit Go.Shelf

attribute [local go_sem] Oper.semAt_some

/-- Block N lies as it lay. -/
def KeepB (N : Nat) (W W' : World) : Prop := N < W.heap.size → W'.heap[N]? = W.heap[N]?
theorem KeepB.trans {N : Nat} {A B C : World} (h : KeepB N A B) (h' : KeepB N B C) : KeepB N A C := fun hl => by
  have e := h hl
  refine (h' ?_).trans e
  have : B.heap[N]? = some (A.heap[N]'hl) := by rw [e, Array.getElem?_eq_getElem hl]
  exact (Array.getElem?_eq_some_iff.1 this).1
theorem boxed_keep {W W' : World} {N : Nat} {t : TypeId} {v : Value} (h : Boxed W N t v) (hk : KeepB N W W') : Boxed W' N t v := (hk h.lt).trans h
theorem keepB_below {N B : Nat} {W W' : World} (h : Below B W W') (hN : N < B) : KeepB N W W' := fun _ => h.block N hN
def iNat : Value → Nat
  | .int _ z => z.toNat
  | _ => 0
theorem range_snoc (k : Nat) : List.range (k + 1) = List.range k ++ [k] := List.range_succ
theorem range_prefix {k L : Nat} (h : k ≤ L) : List.range k <+: List.range L := by
  have e : L = k + (L - k) := by omega
  rw [e, List.range_add]
  exact List.prefix_append _ _

set_option maxRecDepth 100000 in
set_option maxHeartbeats 2000000 in
theorem prefixes_in (n : Nat) (hn : 1 ≤ n) (l N : Nat) (A : Option Addr) (L c : Nat) (hA : 0 < L → ∃ a, A = some a) (hL : L ≤ 1000000) (hc : L ≤ c) (J Jx : List Nat → World → Prop)
    (hY : ∀ pre x W1, J pre W1 → (x = pre.length ∧ x < L) → YieldAt Fence.wide (n - 1) Tryd.prog l #[.slice A x c] W1 fun e W' =>
      (e = .returned (.bool true) ∧ J (pre ++ [x]) W' ∧ KeepB N W1 W') ∨ (e = .returned (.bool false) ∧ Jx (pre ++ [x]) W'))
    (W : World) (hV : Boxed W N 22 (.slice A L c)) (h0 : J [] W) :
    CallsIn Fence.wide n Tryd.prog 58 #[.func (.yield l) #[] #[], .pointer (some ⟨N, 0, none⟩)] W fun e W' => (∃ v, e = .returned v) ∧
      ((∃ ys, ys = List.range L ∧ J ys W') ∨ (∃ pre, pre <+: List.range L ∧ Jx pre W')) := by
  refine callsIn_of_wp Tryd.func58 rfl trivial ?_ rfl
  simp only [Tryd.ntmps58, List.size_toArray, List.length_cons, List.length_nil, Nat.reduceAdd, Nat.reduceSub, Array.replicate_succ, Array.replicate_zero, List.push_toArray, List.append_toArray, List.nil_append, List.cons_append]
  have c2 := hV.cell
  have HV := Lib.hid hV
  have HJ0 := Lib.hid h0
  have HY := Lib.hid hY
  have HA := Lib.hid hA
  clear hV h0 hY hA
  gi_wp2
  gi_loopw [6] (fun i wr => ∃ m, m ≤ L ∧ i = .int .i64 (m : Int) ∧ Boxed wr N 22 (.slice A L c) ∧ J (List.range m) wr) (fun i _ => L - iNat i)
  case atStart => exact ⟨0, by omega, rfl, HV.out, by simpa using HJ0.out⟩
  case round =>
    obtain ⟨m, hm, hi, hv, hj⟩ := hrel
    subst hi
    have c0 := hv.cell
    have HVr := Lib.hid hv
    by_cases hlt : m < L
    · obtain ⟨a, ha⟩ := HA.out (by omega)
      have hs := slice_to22 a L m c (by omega)
      obtain ⟨fn, tmps, assign, body, hy, hR⟩ := HY.out (List.range m) m wr hj ⟨by simp, hlt⟩
      subst ha
      have HR := Lib.hid hR
      have HP : Hid (List.range m ++ [m] = List.range (m + 1)) := (range_snoc m).symm
      have HQ : Hid (List.range (m + 1) <+: List.range L) := range_prefix (by omega)
      clear hv hj hR c2
      gi_wp2
      refine HR.out.mono ?_
      rintro e W3 (⟨rfl, hJ3, hk3⟩ | ⟨rfl, hJx3⟩)
      · have V3 := Lib.hid (boxed_keep HVr.out hk3)
        have HJ3 : Hid (J (List.range (m + 1)) W3) := by rw [Hid, ← HP.out]; exact hJ3
        clear c0 hy hk3 hJ3 HVr
        gi_wp2
        go_roundw
        case rel => exact ⟨m + 1, by omega, by go_num, V3.out, HJ3.out⟩
        case measure =>
          have e1 : iNat (.int .i64 ((m : Int) + 1)) = m + 1 := by show ((m : Int) + 1).toNat = m + 1; omega
          have e2 : iNat (.int .i64 (m : Int)) = m := by show ((m : Int)).toNat = m; omega
          first
            | (rw [e1, e2]; omega)
            | (simp [iNat]; omega)
      · have HJx3 : Hid (Jx (List.range (m + 1)) W3) := by rw [Hid, ← HP.out]; exact hJx3
        gi_wp2
        refine bodyPost_ret (results_none rfl _ _ _) rfl ?_
        exact ⟨⟨_, rfl⟩, .inr ⟨_, HQ.out, HJx3.out⟩⟩
    · have hmL : m = L := by omega
      subst hmL
      have HJ3 := Lib.hid hj
      clear hv hj
      gi_wp2
      go_end0
      exact ⟨⟨_, rfl⟩, .inl ⟨_, rfl, HJ3.out⟩⟩

theorem prefixes_gives (n : Nat) (hn : 1 ≤ n) (N : Nat) (A : Option Addr) (L c : Nat) (hA : 0 < L → ∃ a, A = some a) (hL : L ≤ 1000000) (hc : L ≤ c) (w : World) (hV : Boxed w N 22 (.slice A L c)) :
    Gives Fence.wide n Tryd.prog 58 #[.pointer (some ⟨N, 0, none⟩)] (fun x : Nat => #[Value.slice A x c]) (KeepB N) (fun A B => A = B)
      (fun ys => ys = List.range L) (fun pre => pre <+: List.range L) (fun pre x => x = pre.length ∧ x < L) w :=
  fun l J Jx W hk _ _ hY h0 => prefixes_in n hn l N A L c hA hL hc J Jx hY W (boxed_keep hV hk) h0

theorem prefixes_any (A : Option Addr) (n c : Nat) (w : World) : Calls Tryd.prog 43 #[.slice A n c] w fun e w' =>
    e = .returned (.func (.func 58) #[] #[.pointer (some ⟨w.heap.size, 0, none⟩)]) ∧ w' = w.alloc (.cells #[.slice A n c] 22) := by
  go_enter Tryd.func43, Tryd.ntmps43
  go_wp2_with fail
  go_ret
  exact ⟨rfl, rfl⟩
end Go.Proofs.YtoegmajkfaokdaaDoor
