/- The reference's tape: Number; the reference's Get. -/
import Derived.Test.YtoegmajkfaokdaaDoorGt
namespace Go.Proofs.YtoegmajkfaokdaaDoor
open Go.RowKit

/-- The reference's tape in block g. -/
def RT (W : World) (g : Nat) (S : ByteArray) (E : Int) : Prop := W.heap[g]? = some (.cells #[.string S, .int .i64 E] 48 (0, 0))
theorem RT.lt {W : World} {g : Nat} {S : ByteArray} {E : Int} (h : RT W g S E) : g < W.heap.size := (Array.getElem?_eq_some_iff.1 h).1
theorem RT.cell0 {W : World} {g : Nat} {S : ByteArray} {E : Int} (h : RT W g S E) : W.cell? ⟨g, 0, none⟩ = some (.string S) := by simp [World.cell?, show W.heap[g]? = _ from h]
theorem RT.cell1 {W : World} {g : Nat} {S : ByteArray} {E : Int} (h : RT W g S E) : W.cell? ⟨g, 1, none⟩ = some (.int .i64 E) := by simp [World.cell?, show W.heap[g]? = _ from h]
theorem RT.frozen {W : World} {g : Nat} {S : ByteArray} {E : Int} (h : RT W g S E) (k : Nat) : W.frozen? ⟨g, k, none⟩ = false := by simp [World.frozen?, show W.heap[g]? = _ from h]
theorem RT.new (W : World) (S : ByteArray) (E : Int) : RT (W.alloc (.cells #[.string S, .int .i64 E] 48)) W.heap.size S E := heap_alloc_new W _
theorem RT.set0 {W : World} {g : Nat} {S : ByteArray} {E : Int} (h : RT W g S E) (S' : ByteArray) : RT (W.setCell ⟨g, 0, none⟩ (.string S')) g S' E := by
  obtain ⟨hlt, hk⟩ := Array.getElem?_eq_some_iff.1 h
  show (W.heap.modify g _)[g]? = _
  rw [Array.getElem?_eq_getElem (by rw [Array.size_modify]; exact hlt), Array.getElem_modify_self, hk]
  rfl
theorem RT.set1 {W : World} {g : Nat} {S : ByteArray} {E : Int} (h : RT W g S E) (n' : Int) : RT (W.setCell ⟨g, 1, none⟩ (.int .i64 n')) g S n' := by
  obtain ⟨hlt, hk⟩ := Array.getElem?_eq_some_iff.1 h
  show (W.heap.modify g _)[g]? = _
  rw [Array.getElem?_eq_getElem (by rw [Array.size_modify]; exact hlt), Array.getElem_modify_self, hk]
  rfl
theorem RT.kp {P : Nat → Prop} {W W' : World} {g : Nat} {S : ByteArray} {E : Int} (h : RT W g S E) (hk : Tp.Kp P W W') (hg : ¬ P g) : RT W' g S E := (hk.block g h.lt hg).trans h
/-- It bears these bytes, with or without a fault. -/
def RTape (W : World) (g : Nat) (l : List Nat) (ok : Bool) : Prop := ∃ E : Int, RT W g (Tp.str l) E ∧ (ok = true ↔ E = 0)
theorem RTape.kp {P : Nat → Prop} {W W' : World} {g : Nat} {l : List Nat} {ok : Bool} (h : RTape W g l ok) (hk : Tp.Kp P W W') (hg : ¬ P g) : RTape W' g l ok := by
  obtain ⟨E, h1, h2⟩ := h
  exact ⟨E, h1.kp hk hg, h2⟩
theorem RTape.lt {W : World} {g : Nat} {l : List Nat} {ok : Bool} (h : RTape W g l ok) : g < W.heap.size := by
  obtain ⟨E, h1, _⟩ := h
  exact h1.lt

theorem tstr_index {l : List Nat} {S : ByteArray} {m d : Nat} (hs : Tp.Sml l) (hS : S = Tp.str l) (h : l[m]? = some d) (W : World) : (Instr.index 9 (.string S) (.int .i64 (m : Int))).run Tryd.prog W = .ok (.int .u8 (d : Int)) W := by
  subst hS
  obtain ⟨hm, hx⟩ := List.getElem?_eq_some_iff.1 h
  have hb := Tp.bys_str hs
  have hsz : (Tp.str l).size = l.length := Tp.str_size l
  rw [run_index_string W 9 _ .i64 _ Tryd.underlying9, dif_pos ⟨by omega, by omega⟩]
  simp only [Int.toNat_natCast]
  congr 3
  have e : (Tp.bys (Tp.str l))[m]? = some d := by rw [hb]; exact h
  unfold Tp.bys at e
  rw [List.getElem?_map] at e
  obtain ⟨y, hy, hy2⟩ := Option.map_eq_some_iff.1 e
  rw [← hy2]
  obtain ⟨h3, h4⟩ := List.getElem?_eq_some_iff.1 hy
  rw [← h4]
  rfl
theorem tstr_from {l : List Nat} {S : ByteArray} {n : Nat} (hs : Tp.Sml l) (hS : S = Tp.str l) (hn : n + 1 ≤ l.length) (W : World) : (Instr.slice 9 (.string S) (some (.int .i64 ((n : Int) + 1))) none none).run Tryd.prog W = .ok (.string (Tp.str (l.drop (n + 1)))) W := by
  subst hS
  have hsz : (Tp.str l).size = l.length := Tp.str_size l
  rw [run_slice_string_l W 9 _ Tryd.underlying9 .i64 _ (by omega) (by omega)]
  have e : ((n : Int) + 1).toNat = n + 1 := by omega
  rw [e]
  congr 2
  have h2 : Tp.Sml (l.drop (n + 1)) := fun c hc => hs c (List.mem_of_mem_drop hc)
  rw [← Tp.str_bys ((Tp.str l).extract (n + 1) (Tp.str l).size)]
  congr 1
  unfold Tp.bys
  rw [ByteArray.data_extract]
  have hb := Tp.bys_str hs
  unfold Tp.bys at hb
  rw [Array.toList_extract, List.extract, List.map_take, List.map_drop, hb]
  exact List.take_of_length_le (by simp; omega)

def K1Rel (w : World) (l : List Nat) (k : Nat) (i : Value) (wr : World) : Prop := ∃ m, m + k = 10 ∧ i = .int .i64 (m : Int) ∧ m ≤ l.length ∧ Tp.Big (l.take m) ∧ w = wr
def K2Rel (w : World) (l : List Nat) (k : Nat) (n i : Value) (wr : World) : Prop := i = .int .i64 ((k : Int) - 1) ∧ k ≤ l.length ∧ n = .int .i64 ((Tp.val (l.drop k) : Nat) : Int) ∧ w = wr

theorem val_drop {T : List Nat} {j d : Nat} (h : T[j]? = some d) : Tp.val (T.drop j) = d % 128 + 128 * Tp.val (T.drop (j + 1)) := by
  obtain ⟨h1, h2⟩ := List.getElem?_eq_some_iff.1 h
  rw [List.drop_eq_getElem_cons h1, h2]
  rfl
theorem val_drop_le (T : List Nat) : ∀ j, Tp.val (T.drop j) ≤ Tp.val T
  | 0 => by simp
  | j + 1 => by
    have ih := val_drop_le T j
    by_cases h : j < T.length
    · have := val_drop (T := T) (j := j) (List.getElem?_eq_getElem h)
      omega
    · rw [List.drop_eq_nil_of_le (by omega)]
      simp [Tp.val]
theorem big_step {l : List Nat} {m d : Nat} (h : Tp.Big (l.take m)) (hx : l[m]? = some d) (h1 : 128 ≤ d) (h2 : d < 256) : Tp.Big (l.take (m + 1)) := fun y hy => by
  rw [take_snoc hx] at hy
  rcases List.mem_append.1 hy with h' | h'
  · exact h y h'
  · simp at h'; subst h'; exact ⟨h1, h2⟩

/-- It answers that number; the tape bears what is left. -/
def RNum (w : World) (g : Nat) (l : List Nat) (ok : Bool) (most : Int) (e : Ending) (w' : World) : Prop :=
  e = .returned (.int .i64 (numStep l ok most).1) ∧ RTape w' g (numStep l ok most).2.1 (numStep l ok most).2.2 ∧ Tp.Kp (fun b => b = g) w w'
theorem rnum_no {w : World} {g : Nat} {l : List Nat} {most : Int} {n : Int} (h : RT w g (Tp.str l) 0) (hn : n ≠ 0) (hno : Tp.NoNum l most) : RNum w g l true most (.returned (.int .i64 0)) (w.setCell ⟨g, 1, none⟩ (.int .i64 n)) := by
  unfold RNum
  rw [numStep_none hno]
  exact ⟨rfl, ⟨n, h.set1 n, by simp [hn]⟩, Tp.Kp.setCell (S := fun b => b = g) (p := ⟨g, 1, none⟩) (Tp.Kp.refl _ _) (fun _ => rfl) _⟩

set_option maxRecDepth 100000 in
theorem refNum_fault {w : World} {g : Nat} {l : List Nat} {most : Int} (h : RTape w g l false) :
    Calls Tryd.prog 48 #[.pointer (some ⟨g, 0, none⟩), .int .i64 most] w (RNum w g l false most) := by
  have HR := Lib.hid h
  obtain ⟨E, h1, h2⟩ := h
  have c1 := h1.cell1
  have hne : (E != 0) = true := by
    have : ¬ E = 0 := fun e => by have := h2.2 e; cases this
    simpa using this
  clear h1 h2
  go_enter Tryd.func48, Tryd.ntmps48
  go_wp2_with fail
  go_ret
  exact ⟨rfl, HR.out, Tp.Kp.refl _ _⟩

set_option maxRecDepth 100000 in
set_option maxHeartbeats 2000000 in
theorem refNum_true {w : World} {g : Nat} {l : List Nat} {most : Int} (h : RT w g (Tp.str l) 0) (hs : Tp.Sml l) (hn : l.length ≤ 900000) :
    Calls Tryd.prog 48 #[.pointer (some ⟨g, 0, none⟩), .int .i64 most] w (RNum w g l true most) := by
  have HR := Lib.hid h
  have HS := Lib.hid hs
  have c0 := h.cell0
  have c1 := h.cell1
  have f0 := h.frozen 0
  have f1 := h.frozen 1
  obtain ⟨S, hS⟩ : ∃ S, S = Tp.str l := ⟨_, rfl⟩
  rw [← hS] at c0
  have HSS := Lib.hid hS
  have hsz : S.size = l.length := by rw [hS]; exact Tp.str_size l
  clear h hs hS
  go_enter Tryd.func48, Tryd.ntmps48
  go_wp2_with fail
  go_loopg [5] 10 (fun k i wr => K1Rel w l k i wr)
  case atStart => exact ⟨0, rfl, rfl, by omega, fun y hy => by simp at hy, rfl⟩
  case round =>
    obtain ⟨m, hmk, hi, hml, hbig, hw⟩ := hrel
    subst hi hw
    have HB := Lib.hid hbig
    have HM := Lib.hid hmk
    clear hbig
    by_cases hend : m = l.length
    · -- no byte is left
      by_cases h10 : m < 10
      · have HN : Hid (Tp.NoNum l most) := Tp.no_end (by have := HB.out; rwa [List.take_of_length_le (by omega)] at this)
        have q1 : ((m : Int) == (S.size : Int)) = true := by rw [hsz]; simp; omega
        have q2 : ¬ (m : Int) < (S.size : Int) := by omega
        have q3 : (m : Int) < 10 := by omega
        by_cases h9 : m = 9
        · have q4 : ((m : Int) == 9) = true := by simp; omega
          clear hmk hml hend hsz h10 h9
          go_wp2_with fail
          go_ret
          exact rnum_no HR.out (by decide) HN.out
        · have q4 : ((m : Int) == 9) = false := by simp; omega
          clear hmk hml hend hsz h10 h9
          go_wp2_with fail
          go_ret
          exact rnum_no HR.out (by decide) HN.out
      · have HN : Hid (Tp.NoNum l most) := Tp.no_nine (fun y hy => HB.out y (by
          rw [List.take_of_length_le (by omega)]
          exact List.mem_of_mem_take hy))
        have q2 : ¬ (m : Int) < (S.size : Int) := by omega
        have q1 : ((m : Int) == (S.size : Int)) = true := by rw [hsz]; simp; omega
        have q3 : ¬ (m : Int) < 10 := by omega
        have q4 : (9 : Int) ≤ (m : Int) := by omega
        clear hmk hml hend hsz h10
        go_wp2_with fail
        go_ret
        exact rnum_no HR.out (by decide) HN.out
    · obtain ⟨d, hx⟩ : ∃ x, l[m]? = some x := ⟨_, List.getElem?_eq_getElem (by omega)⟩
      have hd := HS.out d (List.mem_of_getElem? hx)
      have ix := tstr_index HS.out HSS.out hx
      have q1 : ((m : Int) == (S.size : Int)) = false := by simp; omega
      have q2 : (m : Int) < (S.size : Int) := by omega
      by_cases h10 : m < 10
      · have q3 : (m : Int) < 10 := by omega
        by_cases hbg : 128 ≤ d
        · -- one more
          cases gk with
          | zero => omega
          | succ j =>
            have HB2 := Lib.hid (big_step HB.out hx hbg hd)
            have q5 : (128 : Int) ≤ (d : Int) := by omega
            have hm1 : m + 1 ≤ l.length := by omega
            clear hmk hml hend hsz hx
            go_wp2_with fail
            go_roundg j
            case measure => omega
            case rel => exact ⟨m + 1, by have := HM.out; omega, by go_num, hm1, HB2.out, rfl⟩
        · have q5 : ¬ (128 : Int) ≤ (d : Int) := by omega
          by_cases h9 : 9 ≤ m
          · have HN : Hid (Tp.NoNum l most) := Tp.no_nine (fun y hy => HB.out y (by
              have e : l.take 9 = (l.take m).take 9 := by rw [List.take_take, Nat.min_eq_left h9]
              rw [e] at hy
              exact List.mem_of_mem_take hy))
            have q4 : (9 : Int) ≤ (m : Int) := by omega
            clear hmk hml hend hsz h10 hx
            go_wp2_with fail
            go_ret
            exact rnum_no HR.out (by decide) HN.out
          · have q4 : ¬ (9 : Int) ≤ (m : Int) := by omega
            have hlt128 : d < 128 := by omega
            by_cases hz : 0 < m ∧ d = 0
            · obtain ⟨hm0, rfl⟩ := hz
              have HN : Hid (Tp.NoNum l most) := Tp.no_zero HB.out hx hm0
              have q6 : (0 : Int) < (m : Int) := by omega
              clear hmk hml hend hsz h10 hx
              go_wp2_with fail
              go_ret
              exact rnum_no HR.out (by decide) HN.out
            · -- a number
              have hhit := Tp.num_hit HB.out hx hlt128 (fun e => by omega)
              obtain ⟨T, hT⟩ : ∃ T, T = l.take (m + 1) := ⟨_, rfl⟩
              have hTl : T.length = m + 1 := by rw [hT]; simp; omega
              have hval : Tp.val T = Tp.val (l.take m) + d * 128 ^ m := by
                rw [hT, Tp.val_take hx, Nat.mod_eq_of_lt hlt128]
              rw [← hval] at hhit
              have hvlt : Tp.val T < 9223372036854775808 := by
                have h1 := Tp.val_take_lt l (m + 1)
                rw [← hT] at h1
                have h2 : (128 : Nat) ^ (m + 1) ≤ 128 ^ 9 := Nat.pow_le_pow_right (by omega) (by omega)
                have h3 : (128 : Nat) ^ 9 = 9223372036854775808 := by decide
                omega
              have HHIT := Lib.hid hhit
              have HT2 := Lib.hid hT
              have q7 : ¬ (0 < (m : Int) ∧ (d : Int) = 0) := by omega
              have q8 : (0 : Int) < (m : Int) → ((d : Int) == 0) = false := fun h => by
                rw [beq_eq_false_iff_ne]
                intro e
                exact hz ⟨by omega, by omega⟩
              have hml1 : m + 1 ≤ l.length := by omega
              have sl := tstr_from HS.out HSS.out hml1
              have HIX : Hid (∀ j d' : Nat, T[j]? = some d' → d' < 256 ∧ ∀ W : World, (Instr.index 9 (.string S) (.int .i64 (j : Int))).run Tryd.prog W = .ok (.int .u8 (d' : Int)) W) := fun j d' hj => by
                rw [hT, List.getElem?_take] at hj
                split at hj
                · exact ⟨HS.out d' (List.mem_of_getElem? hj), tstr_index HS.out HSS.out hj⟩
                · cases hj
              have fin : ∀ N : Nat, N = Tp.val T → N < 9223372036854775808 → (¬ most < (N : Int) → RNum w g l true most (.returned (.int .i64 (N : Int))) (w.setCell ⟨g, 0, none⟩ (.string (Tp.str (l.drop (m + 1)))))) ∧ (most < (N : Int) → RNum w g l true most (.returned (.int .i64 0)) (w.setCell ⟨g, 1, none⟩ (.int .i64 13))) := fun N hN hN2 => by
                subst hN
                refine ⟨fun hle => ?_, fun hgt => rnum_no HR.out (by decide) (Tp.no_long HHIT.out hgt)⟩
                unfold RNum
                rw [numStep_some HHIT.out (by omega) hN2]
                exact ⟨rfl, ⟨0, HR.out.set0 _, by simp⟩, Tp.Kp.setCell (S := fun b => b = g) (p := ⟨g, 0, none⟩) (Tp.Kp.refl _ _) (fun _ => rfl) _⟩
              have FIN := Lib.hid fin
              have HV : Hid (Tp.val T < 9223372036854775808) := hvlt
              clear hmk hml hend hsz h10 hx hhit hT hval hvlt fin hz HHIT hml1
              by_cases hm0 : m = 0
              · have q6 : ¬ (0 : Int) < (m : Int) := by omega
                clear q8 q7 hm0
                go_wp2_with fail
                go_loopg [6, 7] (m + 1) (fun k n i wr => K2Rel w T k n i wr)
                case atStart => exact ⟨by go_num, by omega, by rw [List.drop_eq_nil_of_le (by omega)]; rfl, rfl⟩
                case round =>
                  obtain ⟨hi, hkl, hnn, hww⟩ := hrel
                  subst hi hnn hww
                  cases gk with
                  | zero =>
                    obtain ⟨V, hV⟩ : ∃ V, V = Tp.val T := ⟨_, rfl⟩
                    have hV2 : V < 9223372036854775808 := by rw [hV]; exact HV.out
                    have F := FIN.out V hV hV2
                    have e0 : Tp.val (T.drop 0) = V := by rw [hV]; rfl
                    have e1 : ((0 : Nat) : Int) - 1 = -1 := rfl
                    rw [e0, e1]
                    have FI := Lib.hid F
                    clear hV F e0 e1
                    by_cases hmo : most < (V : Int)
                    · have F2 := Lib.hid (FI.out.2 hmo)
                      go_wp2_with fail
                      go_ret
                      exact F2.out
                    · have F2 := Lib.hid (FI.out.1 (by omega))
                      go_wp2_with fail
                      go_ret
                      exact F2.out
                  | succ j =>
                    obtain ⟨d', hd'⟩ : ∃ x, T[j]? = some x := ⟨_, List.getElem?_eq_getElem (by omega)⟩
                    obtain ⟨hd256, ixj⟩ := HIX.out j d' hd'
                    have hvd := val_drop hd'
                    have hvl := val_drop_le T j
                    have hvT := HV.out
                    obtain ⟨V, hV⟩ : ∃ V, V = Tp.val (T.drop (j + 1)) := ⟨_, rfl⟩
                    obtain ⟨r, hr⟩ : ∃ r, r = d' % 128 := ⟨_, rfl⟩
                    obtain ⟨V2, hV2⟩ : ∃ V2, V2 = Tp.val (T.drop j) := ⟨_, rfl⟩
                    rw [← hV, ← hr, ← hV2] at hvd
                    rw [← hV2] at hvl
                    have hrr : Int.tmod (d' : Int) 128 = (r : Int) := by rw [hr]; rfl
                    have hr2 : (d' : Int) % 128 = (r : Int) := by rw [hr]; rfl
                    have hr3 : r < 128 := by omega
                    have hb1 : V2 < 9223372036854775808 := by omega
                    have hb2 : 128 * (V : Int) + (r : Int) = (V2 : Int) := by omega
                    have hb3 : 128 * (V : Int) ≤ 9223372036854775807 := by omega
                    have e1 : ((j + 1 : Nat) : Int) - 1 = (j : Int) := by omega
                    have HVV := Lib.hid hV2
                    have hjl : j ≤ T.length := by omega
                    rw [← hV, e1]
                    clear hvd hvl hvT hV hr hV2 hd' e1
                    go_wp2_with fail
                    go_roundg j
                    case measure => omega
                    case rel => exact ⟨by go_num, hjl, by rw [← HVV.out, ← hb2], rfl⟩
              · have q6 : (0 : Int) < (m : Int) := by omega
                have q9 := q8 q6
                clear q8 q7 hm0
                go_wp2_with fail
                go_loopg [6, 7] (m + 1) (fun k n i wr => K2Rel w T k n i wr)
                case atStart => exact ⟨by go_num, by omega, by rw [List.drop_eq_nil_of_le (by omega)]; rfl, rfl⟩
                case round =>
                  obtain ⟨hi, hkl, hnn, hww⟩ := hrel
                  subst hi hnn hww
                  cases gk with
                  | zero =>
                    obtain ⟨V, hV⟩ : ∃ V, V = Tp.val T := ⟨_, rfl⟩
                    have hV2 : V < 9223372036854775808 := by rw [hV]; exact HV.out
                    have F := FIN.out V hV hV2
                    have e0 : Tp.val (T.drop 0) = V := by rw [hV]; rfl
                    have e1 : ((0 : Nat) : Int) - 1 = -1 := rfl
                    rw [e0, e1]
                    have FI := Lib.hid F
                    clear hV F e0 e1
                    by_cases hmo : most < (V : Int)
                    · have F2 := Lib.hid (FI.out.2 hmo)
                      go_wp2_with fail
                      go_ret
                      exact F2.out
                    · have F2 := Lib.hid (FI.out.1 (by omega))
                      go_wp2_with fail
                      go_ret
                      exact F2.out
                  | succ j =>
                    obtain ⟨d', hd'⟩ : ∃ x, T[j]? = some x := ⟨_, List.getElem?_eq_getElem (by omega)⟩
                    obtain ⟨hd256, ixj⟩ := HIX.out j d' hd'
                    have hvd := val_drop hd'
                    have hvl := val_drop_le T j
                    have hvT := HV.out
                    obtain ⟨V, hV⟩ : ∃ V, V = Tp.val (T.drop (j + 1)) := ⟨_, rfl⟩
                    obtain ⟨r, hr⟩ : ∃ r, r = d' % 128 := ⟨_, rfl⟩
                    obtain ⟨V2, hV2⟩ : ∃ V2, V2 = Tp.val (T.drop j) := ⟨_, rfl⟩
                    rw [← hV, ← hr, ← hV2] at hvd
                    rw [← hV2] at hvl
                    have hrr : Int.tmod (d' : Int) 128 = (r : Int) := by rw [hr]; rfl
                    have hr2 : (d' : Int) % 128 = (r : Int) := by rw [hr]; rfl
                    have hr3 : r < 128 := by omega
                    have hb1 : V2 < 9223372036854775808 := by omega
                    have hb2 : 128 * (V : Int) + (r : Int) = (V2 : Int) := by omega
                    have hb3 : 128 * (V : Int) ≤ 9223372036854775807 := by omega
                    have e1 : ((j + 1 : Nat) : Int) - 1 = (j : Int) := by omega
                    have HVV := Lib.hid hV2
                    have hjl : j ≤ T.length := by omega
                    rw [← hV, e1]
                    clear hvd hvl hvT hV hr hV2 hd' e1
                    go_wp2_with fail
                    go_roundg j
                    case measure => omega
                    case rel => exact ⟨by go_num, hjl, by rw [← HVV.out, ← hb2], rfl⟩
      · have HN : Hid (Tp.NoNum l most) := Tp.no_nine (fun y hy => HB.out y (by
          have e : l.take 9 = (l.take m).take 9 := by rw [List.take_take, Nat.min_eq_left (by omega)]
          rw [e] at hy
          exact List.mem_of_mem_take hy))
        have q3 : ¬ (m : Int) < 10 := by omega
        have q4 : (9 : Int) ≤ (m : Int) := by omega
        clear hmk hml hend hsz h10 hx
        go_wp2_with fail
        go_ret
        exact rnum_no HR.out (by decide) HN.out

theorem refNum_any {w : World} {g : Nat} {l : List Nat} {ok : Bool} {most : Int} (h : RTape w g l ok) (hs : Tp.Sml l) (hn : l.length ≤ 900000) :
    Calls Tryd.prog 48 #[.pointer (some ⟨g, 0, none⟩), .int .i64 most] w (RNum w g l ok most) := by
  cases ok with
  | false => exact refNum_fault h
  | true =>
    obtain ⟨E, h1, h2⟩ := h
    have := h2.1 rfl
    subst this
    exact refNum_true h1 hs hn
end Go.Proofs.YtoegmajkfaokdaaDoor
