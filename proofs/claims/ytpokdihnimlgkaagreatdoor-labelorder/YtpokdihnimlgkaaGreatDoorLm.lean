/- The mathematics of labels: levels, validity, making, flowing. -/
import Derived.Test.YtpokdihnimlgkaaGreatDoorEnt
import Derived.Test.YtpokdihnimlgkaaGreatDoorN
import Derived.Test.YtpokdihnimlgkaaGreatDoorL
namespace Go.Proofs.YtpokdihnimlgkaaGreatDoor

/-- The level of the first entry for c, or 1. -/
def lev : List Ent → List UInt8 → Int
  | [], _ => 1
  | e :: r, c => if e.1 = c then e.2 else lev r c
/-- The categories of a label. -/
def keys (l : List Ent) : List (List UInt8) := l.map Prod.fst

theorem lev_none {l : List Ent} {c : List UInt8} (h : ∀ x ∈ l, x.1 ≠ c) : lev l c = 1 := by
  induction l with
  | nil => rfl
  | cons x r ih => rw [lev, if_neg (h x (by simp)), ih fun y hy => h y (by simp [hy])]
theorem lev_out {l : List Ent} {c : List UInt8} (h : c ∉ keys l) : lev l c = 1 := lev_none fun x hx e => h (by rw [← e]; exact List.mem_map_of_mem hx)
theorem lev_hit {l : List Ent} {c : List UInt8} : ∀ {m : Nat} {e : Ent}, l[m]? = some e → (∀ x ∈ l.take m, x.1 ≠ c) → e.1 = c → lev l c = e.2 := by
  induction l with
  | nil => intro m e h; simp at h
  | cons x r ih =>
    intro m e h hno he
    cases m with
    | zero => simp at h; subst h; rw [lev, if_pos he]
    | succ m => rw [lev, if_neg (hno x (by simp)), ih (by simpa using h) (fun y hy => hno y (by simp [hy])) he]
theorem lev_mem (l : List Ent) (c : List UInt8) : (c ∉ keys l ∧ lev l c = 1) ∨ ∃ e ∈ l, e.1 = c ∧ lev l c = e.2 := by
  induction l with
  | nil => exact .inl ⟨by simp [keys], rfl⟩
  | cons x r ih =>
    by_cases hx : x.1 = c
    · exact .inr ⟨x, by simp, hx, by rw [lev, if_pos hx]⟩
    · rcases ih with ⟨h1, h2⟩ | ⟨e, he, h1, h2⟩
      · exact .inl ⟨by simp only [keys, List.map_cons, List.mem_cons, not_or]; exact ⟨fun h => hx h.symm, h1⟩, by rw [lev, if_neg hx, h2]⟩
      · exact .inr ⟨e, by simp [he], h1, by rw [lev, if_neg hx, h2]⟩
theorem lev_nodup {l : List Ent} (h : (keys l).Nodup) {e : Ent} (he : e ∈ l) : lev l e.1 = e.2 := by
  induction l with
  | nil => cases he
  | cons x r ih =>
    simp only [keys, List.map_cons, List.nodup_cons] at h
    rcases List.mem_cons.1 he with rfl | he
    · rw [lev, if_pos rfl]
    · have hne : ¬ x.1 = e.1 := fun hx => h.1 (by rw [hx]; exact List.mem_map_of_mem he)
      rw [lev, if_neg hne, ih h.2 he]

/-- The level of the last entry for c, or 1. -/
def last (l : List Ent) (c : List UInt8) : Int := l.foldl (fun n e => if e.1 = c then e.2 else n) 1
theorem last_snoc (l : List Ent) (e : Ent) (c : List UInt8) : last (l ++ [e]) c = if e.1 = c then e.2 else last l c := by simp [last]
theorem last_same {g : List UInt8 → Int} {l : List Ent} (h : ∀ e ∈ l, e.2 = g e.1) (c : List UInt8) : last l c = if c ∈ keys l then g c else 1 := by
  have key : ∀ (l : List Ent) (n : Int), (∀ e ∈ l, e.2 = g e.1) → l.foldl (fun n e => if e.1 = c then e.2 else n) n = if c ∈ keys l then g c else n := by
    intro l
    induction l with
    | nil => intro n _; simp [keys]
    | cons x r ih =>
      intro n h
      rw [List.foldl_cons, ih _ fun e he => h e (by simp [he])]
      by_cases h1 : c ∈ keys r
      · rw [if_pos h1, if_pos (by simp only [keys, List.map_cons, List.mem_cons]; exact .inr h1)]
      · rw [if_neg h1]
        by_cases h2 : x.1 = c
        · rw [if_pos h2, if_pos (by simp only [keys, List.map_cons, List.mem_cons]; exact .inl h2.symm), h x (by simp), h2]
        · rw [if_neg h2, if_neg (by simp only [keys, List.map_cons, List.mem_cons, not_or]; exact ⟨fun e => h2 e.symm, h1⟩)]
  exact key l 1 h

/-- What is wrong with an entry; 0: nothing. -/
def entErr (e : Ent) : Int := if (catOf e.1).isSome = false then 20 else if e.2 < 0 ∨ 3 < e.2 then 21 else 0
theorem entErr_zero {e : Ent} : entErr e = 0 ↔ (catOf e.1).isSome = true ∧ 0 ≤ e.2 ∧ e.2 ≤ 3 := by
  unfold entErr
  cases (catOf e.1).isSome with
  | false => simp
  | true =>
    by_cases h : e.2 < 0 ∨ 3 < e.2
    · simp [h]; omega
    · simp [h]; omega

/-- The label with the levels f: ascending, each category whose level is not 1, with its level. -/
def Labs (f : List UInt8 → Int) (m : List Ent) : Prop := Rises cmpC (keys m) ∧ (∀ c, c ∈ keys m ↔ f c ≠ 1) ∧ ∀ e ∈ m, e.2 = f e.1
theorem Labs.lev {f : List UInt8 → Int} {m : List Ent} (h : Labs f m) : lev m = f := by
  funext c
  rcases lev_mem m c with ⟨h1, h2⟩ | ⟨e, he, h1, h2⟩
  · rw [h2]
    by_cases hf : f c = 1
    · exact hf.symm
    · exact absurd ((h.2.1 c).2 hf) h1
  · rw [h2, h.2.2 e he, h1]
theorem Labs.form {f : List UInt8 → Int} {m : List Ent} (h : Labs f m) : m = (keys m).map fun c => (c, f c) := by
  unfold keys
  rw [List.map_map]
  conv => lhs; rw [← List.map_id m]
  refine List.map_congr_left fun e he => ?_
  have := h.2.2 e he
  exact Prod.ext rfl this
theorem Labs.uniq {f : List UInt8 → Int} {m m' : List Ent} (h : Labs f m) (h' : Labs f m') : m = m' := by
  rw [h.form, h'.form, rises_unique tot_cmpC h.1 h'.1 fun c => (h.2.1 c).trans (h'.2.1 c).symm]

theorem rises_nodup {l : List (List UInt8)} (h : Rises cmpC l) : l.Nodup :=
  h.imp fun {x y} hxy e => by
    subst e
    rw [tot_cmpC.refl] at hxy
    exact absurd hxy (by decide)

/-- A valid label. -/
def RightL (l : List Ent) : Prop := l.length ≤ 8 ∧ (∀ e ∈ l, entErr e = 0 ∧ e.2 ≠ 1) ∧ Rises cmpC (keys l)
instance (l : List Ent) : Decidable (RightL l) := by unfold RightL Rises; infer_instance
theorem RightL.labs {l : List Ent} (h : RightL l) : Labs (lev l) l := by
  have hn := rises_nodup h.2.2
  refine ⟨h.2.2, fun c => ?_, fun e he => (lev_nodup hn he).symm⟩
  rcases lev_mem l c with ⟨h1, h2⟩ | ⟨e, he, h1, h2⟩
  · exact ⟨fun hc => absurd hc h1, fun hc => absurd h2 hc⟩
  · exact ⟨fun _ => by rw [h2]; exact (h.2.1 e he).2, fun _ => by rw [← h1]; exact List.mem_map_of_mem he⟩
theorem RightL.level {l : List Ent} (h : RightL l) (c : List UInt8) : 0 ≤ lev l c ∧ lev l c ≤ 3 := by
  rcases lev_mem l c with ⟨_, h2⟩ | ⟨e, he, _, h2⟩
  · rw [h2]; omega
  · rw [h2]; exact (entErr_zero.1 (h.2.1 e he).1).2
theorem RightL.cat {l : List Ent} (h : RightL l) {c : List UInt8} (hc : c ∈ keys l) : (catOf c).isSome = true := by
  obtain ⟨e, he, rfl⟩ := List.mem_map.1 hc
  exact (entErr_zero.1 (h.2.1 e he).1).1
theorem RightL.lastLev {l : List Ent} (h : RightL l) : last l = lev l := by
  funext c
  rw [last_same h.labs.2.2 c]
  by_cases hc : c ∈ keys l
  · rw [if_pos hc]
  · rw [if_neg hc, lev_out hc]
theorem RightL.of_labs {f : List UInt8 → Int} {m : List Ent} (h : Labs f m) (hn : m.length ≤ 8) (hf : ∀ c, f c ≠ 1 → (catOf c).isSome = true ∧ 0 ≤ f c ∧ f c ≤ 3) : RightL m := by
  refine ⟨hn, fun e he => ?_, h.1⟩
  have h1 := h.2.2 e he
  have h2 := (h.2.1 e.1).1 (List.mem_map_of_mem he)
  have h3 := hf e.1 h2
  rw [← h1] at h2 h3
  exact ⟨entErr_zero.2 h3, h2⟩

/-- What is wrong with the first wrong entry; 0: nothing. -/
def firstErr : List Ent → Int
  | [] => 0
  | e :: r => if entErr e = 0 then firstErr r else entErr e
theorem firstErr_zero {l : List Ent} : firstErr l = 0 ↔ ∀ e ∈ l, entErr e = 0 := by
  induction l with
  | nil => simp [firstErr]
  | cons x r ih =>
    rw [firstErr]
    by_cases h : entErr x = 0
    · rw [if_pos h, ih]; simp [h]
    · rw [if_neg h]; simp [h]
theorem firstErr_hit {l : List Ent} : ∀ {m : Nat} {e : Ent}, l[m]? = some e → (∀ x ∈ l.take m, entErr x = 0) → entErr e ≠ 0 → firstErr l = entErr e := by
  induction l with
  | nil => intro m e h; simp at h
  | cons x r ih =>
    intro m e h hno he
    cases m with
    | zero => simp at h; subst h; rw [firstErr, if_neg he]
    | succ m => rw [firstErr, if_pos (hno x (by simp)), ih (by simpa using h) (fun y hy => hno y (by simp [hy])) he]

/-- What Make says of entries. -/
def MakeOut (l m : List Ent) (n : Int) : Prop :=
  (firstErr l ≠ 0 ∧ m = [] ∧ n = firstErr l) ∨ (firstErr l = 0 ∧ ∃ m', Labs (last l) m' ∧ ((8 < m'.length ∧ m = [] ∧ n = 13) ∨ (m'.length ≤ 8 ∧ m = m' ∧ n = 0)))
theorem MakeOut.uniq {l m m' : List Ent} {n n' : Int} (h : MakeOut l m n) (h' : MakeOut l m' n') : m = m' ∧ n = n' := by
  rcases h with ⟨h1, rfl, rfl⟩ | ⟨h1, p, hp, h2⟩
  · rcases h' with ⟨_, rfl, rfl⟩ | ⟨h3, _⟩
    · exact ⟨rfl, rfl⟩
    · exact absurd h3 h1
  · rcases h' with ⟨h3, _⟩ | ⟨_, q, hq, h4⟩
    · exact absurd h1 h3
    · have := hp.uniq hq
      subst this
      rcases h2 with ⟨h5, rfl, rfl⟩ | ⟨h5, rfl, rfl⟩ <;> rcases h4 with ⟨h6, rfl, rfl⟩ | ⟨h6, rfl, rfl⟩
      · exact ⟨rfl, rfl⟩
      · omega
      · omega
      · exact ⟨rfl, rfl⟩
theorem MakeOut.ok {l m : List Ent} (h : MakeOut l m 0) : firstErr l = 0 ∧ Labs (last l) m ∧ m.length ≤ 8 := by
  rcases h with ⟨h1, _, h2⟩ | ⟨h1, p, hp, ⟨_, _, h2⟩ | ⟨h5, rfl, _⟩⟩
  · exact absurd h2.symm h1
  · cases h2
  · exact ⟨h1, hp, h5⟩
theorem entErr_cases (e : Ent) : entErr e = 20 ∨ entErr e = 21 ∨ entErr e = 0 := by
  unfold entErr
  split
  · exact .inl rfl
  · split
    · exact .inr (.inl rfl)
    · exact .inr (.inr rfl)
theorem MakeOut.bad {l m : List Ent} {n : Int} (h : MakeOut l m n) (hn : n ≠ 0) : m = [] := by
  rcases h with ⟨_, h2, _⟩ | ⟨_, p, hp, ⟨_, h2, _⟩ | ⟨_, _, h2⟩⟩
  · exact h2
  · exact h2
  · exact absurd h2 hn

/-- A label flows to another one: no category of theirs has a greater level in a. -/
def FlowsL (a b : List Ent) : Prop := RightL a ∧ RightL b ∧ ∀ e ∈ a ++ b, lev a e.1 ≤ lev b e.1
instance (a b : List Ent) : Decidable (FlowsL a b) := by unfold FlowsL; infer_instance
theorem flows_iff {a b : List Ent} : FlowsL a b ↔ RightL a ∧ RightL b ∧ ∀ c, lev a c ≤ lev b c := by
  constructor
  · rintro ⟨h1, h2, h3⟩
    refine ⟨h1, h2, fun c => ?_⟩
    by_cases ha : c ∈ keys a
    · obtain ⟨e, he, rfl⟩ := List.mem_map.1 ha
      exact h3 e (List.mem_append_left _ he)
    · by_cases hb : c ∈ keys b
      · obtain ⟨e, he, rfl⟩ := List.mem_map.1 hb
        exact h3 e (List.mem_append_right _ he)
      · rw [lev_out ha, lev_out hb]; omega
  · rintro ⟨h1, h2, h3⟩
    exact ⟨h1, h2, fun e _ => h3 e.1⟩

/-- The entries of two labels, with picked levels. -/
def picked (pick : Int → Int → Int) (a b : List Ent) : List Ent := (a ++ b).map fun e => (e.1, pick (lev a e.1) (lev b e.1))
theorem picked_keys (pick : Int → Int → Int) (a b : List Ent) : keys (picked pick a b) = keys a ++ keys b := by simp [picked, keys, Function.comp_def]
theorem picked_last {pick : Int → Int → Int} (h1 : pick 1 1 = 1) (a b : List Ent) : last (picked pick a b) = fun c => pick (lev a c) (lev b c) := by
  funext c
  rw [last_same (g := fun c => pick (lev a c) (lev b c)) (fun e he => by
    obtain ⟨x, _, rfl⟩ := List.mem_map.1 he
    rfl) c, picked_keys]
  by_cases hc : c ∈ keys a ++ keys b
  · rw [if_pos hc]
  · rw [if_neg hc]
    rw [List.mem_append, not_or] at hc
    rw [lev_out hc.1, lev_out hc.2, h1]
theorem picked_ok {pick : Int → Int → Int} (hp : ∀ x y, 0 ≤ x ∧ x ≤ 3 → 0 ≤ y ∧ y ≤ 3 → 0 ≤ pick x y ∧ pick x y ≤ 3) {a b : List Ent} (ha : RightL a) (hb : RightL b) : firstErr (picked pick a b) = 0 := by
  refine firstErr_zero.2 fun e he => ?_
  obtain ⟨x, hx, rfl⟩ := List.mem_map.1 he
  refine entErr_zero.2 ⟨?_, hp _ _ (ha.level _) (hb.level _)⟩
  rcases List.mem_append.1 hx with h | h
  · exact ha.cat (List.mem_map.2 ⟨x, h, rfl⟩)
  · exact hb.cat (List.mem_map.2 ⟨x, h, rfl⟩)
end Go.Proofs.YtpokdihnimlgkaaGreatDoor
