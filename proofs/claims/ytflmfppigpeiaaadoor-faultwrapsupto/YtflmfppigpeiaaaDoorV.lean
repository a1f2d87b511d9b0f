/- made: the chain of faults, with their places in memory. -/
import Derived.Test.YtflmfppigpeiaaaDoorE
import Derived.Test.YtflmfppigpeiaaaDoorU
namespace Go.Proofs.YtflmfppigpeiaaaDoor
open Go.RowKit

def Num (n : Int) : Prop := -9223372036854775808 ≤ n ∧ n ≤ 9223372036854775807
/-- No place is too long, and every number is an int. -/
def Fits (xs : List (ByteArray × Int)) : Prop := ∀ s n, (s, n) ∈ xs → s.size ≤ 1100000 ∧ Num n
/-- Each fault's place lies in its first cell. -/
def Plc (w : World) (l : List (Nat × Int)) : Prop := ∀ b n, (b, n) ∈ l → ∃ s : ByteArray, w.cell? ⟨b, 0, none⟩ = some (.string s) ∧ w.cell? ⟨b, 1, none⟩ = some (.int .i64 n) ∧ s.size ≤ 1100000 ∧ Num n
theorem Plc.below {w w' : World} {l : List (Nat × Int)} (h : Plc w l) (hb : Below w.heap.size w w') : Plc w' l := fun b n hm => by
  obtain ⟨s, h1, h2, h3⟩ := h b n hm
  have hlt := World.block_lt_of_cell? w _ h1
  exact ⟨s, (hb.cell (p := ⟨b, 0, none⟩) hlt).trans h1, (hb.cell (p := ⟨b, 1, none⟩) hlt).trans h2, h3⟩
theorem Plc.push {w : World} {l : List (Nat × Int)} {s : ByteArray} {n : Int} {v : Value} (h : Plc w l) (hs : s.size ≤ 1100000) (hn : Num n) : Plc (w.alloc (.cells #[.string s, .int .i64 n, v] 55)) ((w.heap.size, n) :: l) := by
  intro b m hm
  rcases List.mem_cons.1 hm with e | hm
  · injection e with e1 e2
    subst e1 e2
    exact ⟨s, by simp, by simp, hs, hn⟩
  · exact h.below ((Below.refl _ _).alloc (Nat.le_refl _) _) b m hm

def MadeRelP (w : World) (ln : Int) (xs : List (ByteArray × Int)) (k : Nat) (v i : Value) (wr : World) : Prop :=
  ∃ l, k ≤ xs.length ∧ i = .int .i64 ((k : Int) - 1) ∧ Chn wr ln l v ∧ l.map (·.2) = keptN ((xs.drop k).map (·.2)) ∧ Below w.heap.size w wr ∧ Plc wr l
def MadePlc (w : World) (ln : Int) (xs : List (ByteArray × Int)) (e : Ending) (w' : World) : Prop :=
  ∃ v l, e = .returned v ∧ Chn w' ln l v ∧ l.map (·.2) = keptN (xs.map (·.2)) ∧ Below w.heap.size w w' ∧ Plc w' l

set_option maxRecDepth 100000 in
theorem made_plc {w : World} {A : Option Addr} {c : Nat} {ln : Int} {xs : List (ByteArray × Int)} (hx : Links w w.heap.size A xs) (hn : xs.length ≤ 50) (hf : Fits xs) :
    Calls Tryd.prog 7 #[.slice A xs.length c, .int .i64 ln] w (MadePlc w ln xs) := by
  have HF := Lib.hid hf
  clear hf
  have HX := Lib.hid hx
  clear hx
  cases h0 : (ln == 0)
  all_goals
    have HL : Hid (lastV ln = if (ln == 0) = true then .nilIface else .iface 28 (.int .i64 ln)) := by
      show lastV ln = _
      unfold lastV
      simp
    have h1 : (ln != 0) = !(ln == 0) := rfl
    rw [h0] at h1
    go_enter Tryd.func7, Tryd.ntmps7
    go_wp2_with fail
    go_loopg [5, 6] xs.length (fun k v i wr => MadeRelP w ln xs k v i wr)
    case atStart => exact ⟨[], Nat.le_refl _, rfl, by have := HL.out; rw [h0] at this; simpa [Chn] using this.symm, by simp [keptN], Below.refl _ _, fun b n h => by cases h⟩
    case round =>
      obtain ⟨l, hk, hi, hc, hm, hb, hp⟩ := hrel
      have HPl := Lib.hid hp
      clear hp
      subst hi
      cases gk with
      | zero =>
        have HC := Lib.hid hc
        have HM := Lib.hid hm
        clear hc hm
        go_wp2_with fail
        go_ret
        exact ⟨_, l, rfl, HC.out, by have := HM.out; simpa using this, hb, HPl.out⟩
      | succ j =>
        have ej : (((j + 1 : Nat) : Int) - 1) = (j : Int) := by omega
        rw [ej]
        obtain ⟨⟨s, n⟩, hxj⟩ : ∃ x, xs[j]? = some x := ⟨_, List.getElem?_eq_getElem (by omega)⟩
        obtain ⟨b, o, rfl, hlt, hcells⟩ := (HX.out.below hb) (by omega)
        obtain ⟨c1, c2⟩ := hcells j s n hxj
        have HC := Lib.hid hc
        have HM := Lib.hid hm
        have HB := Lib.hid hb
        have HXJ := Lib.hid hxj
        have hj : j < xs.length := by omega
        clear hc hm hb hcells hxj ej
        go_wp2_with fail
        have HC2 := Lib.hid (HC.out.below (Nat.le_refl _) (Below.refl _ wr).drew)
        have HB2 := Lib.hid (HB.out.drew)
        have HP2 := Lib.hid (HPl.out.below (Below.refl _ wr).drew)
        have HFj := Lib.hid (HF.out s n (List.mem_of_getElem? HXJ.out))
        clear HPl
        cases hz : (n == 0)
        · go_still_tail 11, (by kernel_rfl)
          change wpList _ _ _ _ _ wr.drew
          generalize wr.drew = w2 at *
          clear c1 c2 HC HB
          go_wp2_with (go_at_call 17; refine (wrap_new s n u5 _ hz HC2.out.isErr).mono ?_; rintro e w' ⟨rfl, rfl⟩)
          go_roundg j
          case measure => omega
          case rel =>
            exact ⟨_, by omega, rfl, Chn.push HC2.out, MadeRel.more HXJ.out hz HM.out, HB2.out.alloc HB2.out.size _, HP2.out.push HFj.out.1 HFj.out.2⟩
        · have hn0 : n = 0 := by simpa using hz
          subst hn0
          clear hz
          go_still_tail 11, (by kernel_rfl)
          change wpList _ _ _ _ _ wr.drew
          generalize wr.drew = w2 at *
          clear c1 c2 HC HB
          go_wp2_with (go_at_call 17; refine (wrap_ok s u5 _).mono ?_; rintro e w' ⟨rfl, rfl⟩)
          go_roundg j
          case measure => omega
          case rel =>
            exact ⟨l, by omega, rfl, HC2.out, MadeRel.same HXJ.out HM.out, HB2.out, HP2.out⟩
end Go.Proofs.YtflmfppigpeiaaaDoor
