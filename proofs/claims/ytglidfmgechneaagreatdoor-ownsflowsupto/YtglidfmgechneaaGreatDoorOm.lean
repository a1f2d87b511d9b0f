/- The mathematics of ownerships. -/
import Derived.Test.YtglidfmgechneaaGreatDoorLm
namespace Go.Proofs.YtglidfmgechneaaGreatDoor
open Go.RowKit

/-- An ownership: at most eight categories, in their order. -/
def OwnL (l : List (List UInt8)) : Prop := l.length ≤ 8 ∧ Rises cmpC l ∧ ∀ x ∈ l, (catOf x).isSome = true
instance (l : List (List UInt8)) : Decidable (OwnL l) := by unfold OwnL Rises; infer_instance
theorem own_nil : OwnL [] := ⟨by simp, List.Pairwise.nil, by simp⟩
theorem own_one {c : List UInt8} (h : (catOf c).isSome = true) : OwnL [c] := ⟨by simp, List.pairwise_singleton _ _, by simpa using h⟩

/-- The categories of l in their order: l itself just where it is an ownership of at most eight. -/
theorem own_sort {l R : List (List UInt8)} (h8 : l.length ≤ 8) (hr : Rises cmpC R) (hm : ∀ x, x ∈ R ↔ x ∈ l ∧ (catOf x).isSome = true) : decide (l = R) = decide (OwnL l) := by
  refine decide_eq_decide.2 ⟨fun h => ?_, fun h => ?_⟩
  · refine ⟨h8, by rw [h]; exact hr, fun x hx => ?_⟩
    rw [h] at hx
    exact ((hm x).1 hx).2
  · refine rises_unique tot_cmpC h.2.1 hr fun x => ⟨fun hx => (hm x).2 ⟨hx, h.2.2 x hx⟩, fun hx => ((hm x).1 hx).1⟩

/-- What Union says. -/
def UnionOut (a b R : List (List UInt8)) (e : Int) : Prop :=
  (¬ (OwnL a ∧ OwnL b) ∧ R = [] ∧ e = 2) ∨ (OwnL a ∧ OwnL b ∧ ∃ U, Rises cmpC U ∧ (∀ x, x ∈ U ↔ x ∈ a ∨ x ∈ b) ∧ ((8 < U.length ∧ R = [] ∧ e = 34) ∨ (U.length ≤ 8 ∧ R = U ∧ e = 0)))
theorem UnionOut.uniq {a b R R' : List (List UInt8)} {e e' : Int} (h : UnionOut a b R e) (h' : UnionOut a b R' e') : R = R' ∧ e = e' := by
  rcases h with ⟨h1, rfl, rfl⟩ | ⟨ha, hb, U, hU, hm, h⟩
  · rcases h' with ⟨_, rfl, rfl⟩ | ⟨ha, hb, _⟩
    · exact ⟨rfl, rfl⟩
    · exact absurd ⟨ha, hb⟩ h1
  · rcases h' with ⟨h1, _⟩ | ⟨_, _, U', hU', hm', h'⟩
    · exact absurd ⟨ha, hb⟩ h1
    · have hq : U = U' := rises_unique tot_cmpC hU hU' fun x => (hm x).trans (hm' x).symm
      subst hq
      rcases h with ⟨h1, rfl, rfl⟩ | ⟨h1, rfl, rfl⟩ <;> rcases h' with ⟨h2, rfl, rfl⟩ | ⟨h2, rfl, rfl⟩
      · exact ⟨rfl, rfl⟩
      · omega
      · omega
      · exact ⟨rfl, rfl⟩
theorem UnionOut.comm {a b R : List (List UInt8)} {e : Int} (h : UnionOut a b R e) : UnionOut b a R e := by
  rcases h with ⟨h1, h2⟩ | ⟨ha, hb, U, hU, hm, h⟩
  · exact .inl ⟨fun h => h1 ⟨h.2, h.1⟩, h2⟩
  · exact .inr ⟨hb, ha, U, hU, fun x => (hm x).trans Or.comm, h⟩
theorem UnionOut.ok {a b R : List (List UInt8)} (h : UnionOut a b R 0) : OwnL a ∧ OwnL b ∧ OwnL R ∧ ∀ x, x ∈ R ↔ x ∈ a ∨ x ∈ b := by
  rcases h with ⟨_, _, h⟩ | ⟨ha, hb, U, hU, hm, ⟨_, _, h⟩ | ⟨h8, rfl, _⟩⟩
  · cases h
  · cases h
  · exact ⟨ha, hb, ⟨h8, hU, fun x hx => ((hm x).1 hx).elim (ha.2.2 x) (hb.2.2 x)⟩, hm⟩
theorem UnionOut.bad {a b R : List (List UInt8)} {e : Int} (h : UnionOut a b R e) (he : e ≠ 0) : R = [] := by
  rcases h with ⟨_, h, _⟩ | ⟨_, _, _, _, _, ⟨_, h, _⟩ | ⟨_, _, h⟩⟩
  · exact h
  · exact h
  · exact absurd h he
theorem UnionOut.len {a b R : List (List UInt8)} {e : Int} (h : UnionOut a b R e) : OwnL R := by
  by_cases he : e = 0
  · subst he; exact h.ok.2.2.1
  · rw [h.bad he]; exact own_nil

/-- What Add says. -/
def AddOut (l : List (List UInt8)) (c : List UInt8) (R : List (List UInt8)) (e : Int) : Prop :=
  (¬ OwnL l ∧ R = [] ∧ e = 2) ∨ (OwnL l ∧ (catOf c).isSome = false ∧ R = [] ∧ e = 20) ∨ (OwnL l ∧ (catOf c).isSome = true ∧ UnionOut l [c] R e)
theorem AddOut.uniq {l R R' : List (List UInt8)} {c : List UInt8} {e e' : Int} (h : AddOut l c R e) (h' : AddOut l c R' e') : R = R' ∧ e = e' := by
  rcases h with ⟨h1, rfl, rfl⟩ | ⟨h1, h2, rfl, rfl⟩ | ⟨h1, h2, h3⟩ <;> rcases h' with ⟨g1, rfl, rfl⟩ | ⟨g1, g2, rfl, rfl⟩ | ⟨g1, g2, g3⟩
  · exact ⟨rfl, rfl⟩
  · exact absurd g1 h1
  · exact absurd g1 h1
  · exact absurd h1 g1
  · exact ⟨rfl, rfl⟩
  · rw [h2] at g2; cases g2
  · exact absurd h1 g1
  · rw [h2] at g2; cases g2
  · exact h3.uniq g3
theorem AddOut.ok {l R : List (List UInt8)} {c : List UInt8} (h : AddOut l c R 0) : OwnL l ∧ (catOf c).isSome = true ∧ OwnL R ∧ ∀ x, x ∈ R ↔ x ∈ l ∨ x = c := by
  rcases h with ⟨_, _, h⟩ | ⟨_, _, _, h⟩ | ⟨h1, h2, h3⟩
  · cases h
  · cases h
  · obtain ⟨_, _, g1, g2⟩ := h3.ok
    exact ⟨h1, h2, g1, fun x => by simpa using g2 x⟩
theorem AddOut.len {l R : List (List UInt8)} {c : List UInt8} {e : Int} (h : AddOut l c R e) : OwnL R := by
  rcases h with ⟨_, rfl, _⟩ | ⟨_, _, rfl, _⟩ | ⟨h1, h2, h3⟩
  · exact own_nil
  · exact own_nil
  · exact h3.len

/-- A list without one. -/
def dropC (l : List (List UInt8)) (c : List UInt8) : List (List UInt8) := l.filter fun x => !decide (x = c)
theorem mem_dropC {l : List (List UInt8)} {c x : List UInt8} : x ∈ dropC l c ↔ x ∈ l ∧ ¬ x = c := by simp [dropC]
theorem own_drop {l : List (List UInt8)} (c : List UInt8) (h : OwnL l) : OwnL (dropC l c) :=
  ⟨Nat.le_trans (List.length_filter_le _ _) h.1, h.2.1.filter _, fun x hx => h.2.2 x (mem_dropC.1 hx).1⟩
theorem dropC_same {l : List (List UInt8)} {c : List UInt8} (h : c ∉ l) : dropC l c = l := List.filter_eq_self.2 fun x hx => by
  have : ¬ x = c := fun e => h (e ▸ hx)
  simp [this]
theorem dropC_less {l : List (List UInt8)} {c : List UInt8} (h : c ∈ l) : (dropC l c).length < l.length := by
  induction l with
  | nil => cases h
  | cons y r ih =>
    by_cases e : y = c
    · have := List.length_filter_le (fun x => !decide (x = c)) r
      simp [dropC, e]
      omega
    · have hr : c ∈ r := by
        rcases List.mem_cons.1 h with h | h
        · exact absurd h.symm e
        · exact h
      have := ih hr
      simp [dropC, e] at this ⊢
      omega

/-- What Drop says. -/
def DropOut (l : List (List UInt8)) (c : List UInt8) (R : List (List UInt8)) (e : Int) : Prop :=
  (¬ OwnL l ∧ R = [] ∧ e = 2) ∨ (OwnL l ∧ (catOf c).isSome = false ∧ R = [] ∧ e = 20) ∨ (OwnL l ∧ (catOf c).isSome = true ∧ c ∉ l ∧ R = [] ∧ e = 36) ∨ (OwnL l ∧ (catOf c).isSome = true ∧ c ∈ l ∧ R = dropC l c ∧ e = 0)
theorem DropOut.uniq {l R R' : List (List UInt8)} {c : List UInt8} {e e' : Int} (h : DropOut l c R e) (h' : DropOut l c R' e') : R = R' ∧ e = e' := by
  rcases h with ⟨h1, rfl, rfl⟩ | ⟨h1, h2, rfl, rfl⟩ | ⟨h1, h2, h3, rfl, rfl⟩ | ⟨h1, h2, h3, rfl, rfl⟩ <;> rcases h' with ⟨g1, rfl, rfl⟩ | ⟨g1, g2, rfl, rfl⟩ | ⟨g1, g2, g3, rfl, rfl⟩ | ⟨g1, g2, g3, rfl, rfl⟩ <;>
    first
      | exact ⟨rfl, rfl⟩
      | exact absurd g1 h1
      | exact absurd h1 g1
      | exact absurd (h2.symm.trans g2) (by decide)
      | exact absurd g3 h3
      | exact absurd h3 g3
theorem DropOut.len {l R : List (List UInt8)} {c : List UInt8} {e : Int} (h : DropOut l c R e) : OwnL R := by
  rcases h with ⟨h1, rfl, rfl⟩ | ⟨h1, h2, rfl, rfl⟩ | ⟨h1, h2, h3, rfl, rfl⟩ | ⟨h1, h2, h3, rfl, rfl⟩
  · exact own_nil
  · exact own_nil
  · exact own_nil
  · exact own_drop c h1

/-- Each of one is in another, both ownerships. -/
def WithinL (a b : List (List UInt8)) : Prop := OwnL a ∧ OwnL b ∧ ∀ x ∈ a, x ∈ b
instance (a b : List (List UInt8)) : Decidable (WithinL a b) := by unfold WithinL; infer_instance

/-- Flowing under an ownership. -/
def FlowsO (a b : List Ent) (l : List (List UInt8)) : Prop := RightL a ∧ RightL b ∧ OwnL l ∧ ∀ e ∈ a ++ b, e.1 ∈ l ∨ lev a e.1 ≤ lev b e.1
instance (a b : List Ent) (l : List (List UInt8)) : Decidable (FlowsO a b l) := by unfold FlowsO; infer_instance
def AltersO (a b : List Ent) (l : List (List UInt8)) : Prop := FlowsO a b l ∧ FlowsO b a l
instance (a b : List Ent) (l : List (List UInt8)) : Decidable (AltersO a b l) := by unfold AltersO; infer_instance
theorem FlowsO.more {a b : List Ent} {l u : List (List UInt8)} (h : FlowsO a b l) (hu : OwnL u) (hs : ∀ x ∈ l, x ∈ u) : FlowsO a b u :=
  ⟨h.1, h.2.1, hu, fun e he => (h.2.2.2 e he).imp (hs _) id⟩
theorem flowsO_nil (a b : List Ent) : decide (FlowsO a b []) = decide (FlowsL a b) := decide_eq_decide.2 ⟨fun h => ⟨h.1, h.2.1, fun e he => (h.2.2.2 e he).elim (fun h => by cases h) id⟩, fun h => ⟨h.1, h.2.1, own_nil, fun e he => .inr (h.2.2 e he)⟩⟩

theorem take_all {α : Type} {P : α → Prop} {l : List α} {m : Nat} {x : α} (h : l[m]? = some x) (ha : ∀ y ∈ l.take m, P y) (hx : P x) : ∀ y ∈ l.take (m + 1), P y := fun y hy => by
  rw [List.take_add_one, h] at hy
  rcases List.mem_append.1 hy with h1 | h1
  · exact ha y h1
  · simp at h1
    rw [h1]; exact hx
end Go.Proofs.YtglidfmgechneaaGreatDoor
