/- fault.chain returns the faults of a chain in order, and the error that ends it; only new memory is written. -/
import Derived.Test.YtflmfppigpeiaaaDoorB
import Derived.Deep.LoopGhost
import Derived.Lib.Hide
namespace Go.Proofs.YtflmfppigpeiaaaDoor
open Go.RowKit

/-- The error that ends a chain: nothing, or a number. -/
def lastV (n : Int) : Value := if n = 0 then .nilIface else .iface 28 (.int .i64 n)

/-- The value v is the head of a chain of faults: their blocks and numbers, and the number that ends it (0: none). -/
def Chn (w : World) (ln : Int) : List (Nat × Int) → Value → Prop
  | [], v => v = lastV ln
  | (b, n) :: r, v => v = .iface 33 (.pointer (some ⟨b, 0, none⟩)) ∧ w.cell? ⟨b, 1, none⟩ = some (.int .i64 n) ∧ ∃ u, w.cell? ⟨b, 2, none⟩ = some u ∧ Chn w ln r u

def headP : List (Nat × Int) → Value
  | [] => .pointer none
  | (b, _) :: _ => .pointer (some ⟨b, 0, none⟩)

def ptrs (l : List (Nat × Int)) : List Value := l.map fun x => .pointer (some ⟨x.1, 0, none⟩)

theorem asFault_chn {w : World} {ln : Int} {l : List (Nat × Int)} {v : Value} (h : Chn w ln l v) (W : World) :
    Calls Tryd.prog 23 #[v] W fun e w' => e = .returned (headP l) ∧ W = w' := by
  cases l with
  | nil =>
    have hv : v = lastV ln := h
    unfold lastV at hv
    split at hv
    · subst hv; exact asFault_nil W
    · subst hv; exact asFault_num ln W
  | cons x r =>
    obtain ⟨b, n⟩ := x
    obtain ⟨rfl, _⟩ := h
    exact asFault_some _ W

theorem Chn.isErr {w : World} {ln : Int} {l : List (Nat × Int)} {v : Value} (h : Chn w ln l v) : IsErr v := by
  cases l with
  | nil =>
    have hv : v = lastV ln := h
    unfold lastV at hv
    split at hv
    · exact .inl hv
    · exact .inr ⟨_, _, hv⟩
  | cons x r =>
    obtain ⟨b, n⟩ := x
    exact .inr ⟨_, _, h.1⟩

theorem Chn.below {w w' : World} {ln : Int} {B : Nat} (hB : w.heap.size ≤ B) (hb : Below B w w') : ∀ {l : List (Nat × Int)} {v : Value}, Chn w ln l v → Chn w' ln l v := by
  intro l
  induction l with
  | nil => intro v h; exact h
  | cons x r ih =>
    intro v h
    obtain ⟨b, n⟩ := x
    obtain ⟨e, c1, u, c2, hr⟩ := h
    have lt := World.block_lt_of_cell? w _ c1
    exact ⟨e, (hb.cell (p := ⟨b, 1, none⟩) (by simp at lt ⊢; omega)).trans c1, u, (hb.cell (p := ⟨b, 2, none⟩) (by simp at lt ⊢; omega)).trans c2, ih hr⟩

theorem Tryd.info33 : (Tryd.prog.info? 33).map (fun i => (i.zero, i.size, i.bytes)) = some (some (.pointer none), 1, 8) := by kernel_rfl

def ChainRel (w : World) (ln : Int) (l : List (Nat × Int)) (k : Nat) (v fs f : Value) (wr : World) : Prop :=
  ∃ dn rest, l = dn ++ rest ∧ rest.length = k ∧ Chn w ln rest v ∧ f = headP rest ∧ wr.ownsRow w.heap.size 33 1 fs dn.length (ptrs dn) ∧ Below w.heap.size w wr

def ChainPost (w : World) (ln : Int) (l : List (Nat × Int)) (e : Ending) (w' : World) : Prop :=
  ∃ sv, e = .returned (.tuple #[sv, lastV ln]) ∧ w'.ownsRow w.heap.size 33 1 sv l.length (ptrs l) ∧ Below w.heap.size w w'

theorem chain_any {w : World} {ln : Int} {l : List (Nat × Int)} {v : Value} (h : Chn w ln l v) (hl : l.length ≤ 100) :
    Calls Tryd.prog 21 #[v] w (ChainPost w ln l) := by
  obtain ⟨i0, hi, hz0, hz1, hz2⟩ := info_parts Tryd.info33
  have H23 := Lib.hid (asFault_chn h w)
  have H := Lib.hid h
  clear h
  go_enter Tryd.func21, Tryd.ntmps21
  go_wp2_with (go_at_call 23; refine H23.out.mono ?_; rintro e w' ⟨rfl, rfl⟩)
  go_loopg [0, 4, 5] l.length (fun k v fs f wr => ChainRel w ln l k v fs f wr)
  case atStart => exact ⟨[], l, rfl, rfl, H.out, rfl, World.ownsRow_nil _ _ _ _, Below.refl _ _⟩
  case round =>
    obtain ⟨dn, rest, hsp, hk, hc, hf, hown, hb⟩ := hrel
    cases rest with
    | nil =>
      have hv : _ = lastV ln := hc
      subst hv
      have hf' : _ = Value.pointer none := hf
      subst hf'
      have HS := Lib.hid hsp
      clear hsp hk hc hf
      go_wp2_with fail
      go_ret2
      have e := HS.out
      rw [List.append_nil] at e
      subst e
      exact ⟨_, rfl, hown, hb⟩
    | cons x r =>
      obtain ⟨b, n⟩ := x
      obtain ⟨hv, c1, u, c2, hr⟩ := hc
      subst hv
      have hf' : _ = Value.pointer (some ⟨b, 0, none⟩) := hf
      subst hf'
      have lt := World.block_lt_of_cell? w _ c1
      have c2' := (hb.cell (p := ⟨b, 2, none⟩) lt).trans c2
      have HS := Lib.hid hsp
      have HK := Lib.hid hk
      have HR := Lib.hid hr
      have hdl : dn.length ≤ 100 := by
        have := congrArg List.length hsp
        simp at this
        omega
      have hsz := hb.size
      clear hsp hk hr c1 hf
      go_wp2_with (first
        | (at_builtin; refine wpList_append_own _ rfl _ _ 51 rfl w.heap.size 33 i0 (.pointer none) 1 8 Tryd.underlying51 hi hz0 hz1 hz2 rfl (by decide) _ _ _ rfl (hown.alloc _) ⟨wr.heap.size, 0, none⟩ 1 1 [.pointer (some ⟨b, 0, none⟩)] rfl rfl ?c1 ?c2 ?c3 ?c4 ?c5 ?_))
      case c2 => rfl
      case c3 => unfold maxLen; omega
      case c4 => omega
      case c5 => omega
      intro v' w1 hown' hgrow _
      have hb1 : Below w.heap.size w w1 := (hb.alloc hsz _).grown hgrow (by simp; omega) (fun k hk => (hown.lt k hk).1)
      have c3 := (hb1.cell (p := ⟨b, 2, none⟩) lt).trans c2
      have HB := Lib.hid hb1
      have HO := Lib.hid hown'
      clear hown' hgrow hown hb hb1 c2' c2
      go_wp2_with (go_at_call 23; refine (asFault_chn HR.out _).mono ?_; rintro e w' ⟨rfl, rfl⟩)
      go_roundg r.length
      case measure => have := HK.out; simp at this; omega
      case rel =>
        refine ⟨dn ++ [(b, n)], r, by rw [HS.out]; simp, rfl, HR.out, rfl, ?_, HB.out⟩
        have := HO.out
        simpa [ptrs] using this
end Go.Proofs.YtflmfppigpeiaaaDoor
