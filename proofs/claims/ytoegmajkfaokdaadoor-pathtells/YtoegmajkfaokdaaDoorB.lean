/- A range over an iterator that keeps a variable of its own in memory and writes it between two rounds (strings.SplitSeq): the caller's law. G: what the iterator does between two rounds; Kp: what it asks a round to keep. -/
import Derived.RangeFuncNested
import Derived.RangeFuncBound
import Derived.RangeFuncLeaves
namespace Go.Proofs.YtoegmajkfaokdaaDoor
open Go.RowKit

/-- An iterator's word: whatever invariant J of the rounds abides G, it ends with all of S given, or with a part of Sp and a round that said no. -/
def Gives {α : Type} (F : Fence) (n : Nat) (P : Program) (gf : Nat) (lb : Array Value) (encs : α → Array Value) (Kp G : World → World → Prop) (S Sp : List α → Prop) (Ok : List α → α → Prop) (w : World) : Prop :=
  ∀ (l : Nat) (J Jx : List α → World → Prop) (W : World), Kp w W → (∀ p A B, J p A → G A B → J p B) → (∀ p A B, Jx p A → G A B → Jx p B) →
    (∀ pre x W1, J pre W1 → Ok pre x → YieldAt F (n - 1) P l (encs x) W1 fun e W' =>
      (e = .returned (.bool true) ∧ J (pre ++ [x]) W' ∧ Kp W1 W') ∨ (e = .returned (.bool false) ∧ Jx (pre ++ [x]) W')) →
    J [] W →
    CallsIn F n P gf (#[.func (.yield l) #[] #[]] ++ lb) W fun e W' => (∃ v, e = .returned v) ∧ ((∃ xs, S xs ∧ J xs W') ∨ (∃ pre, Sp pre ∧ Jx pre W'))

/-- The loop's record and the block for deferred calls, as they lie. -/
def Book (D : Nat) (r : Loop) (W : World) : Prop := W.heap[D + 1]? = some (.loop r) ∧ W.heap[D]? = some (.deferred (some []))

theorem Book.put {D : Nat} {r : Loop} {W : World} (h : Book D r W) (r' : Loop) : Book D r' (W.putObj (D + 1) (.loop r')) :=
  ⟨World.putObj_heap_same (Array.getElem?_eq_some_iff.1 h.1).1, (World.putObj_heap_other (by omega)).trans h.2⟩
theorem Book.keeps {D : Nat} {r : Loop} {W W' : World} (h : Book D r W) (hk : KeepsOthers W W') : Book D r W' := ⟨hk.same _ _ h.1 rfl, hk.same _ _ h.2 rfl⟩

/-- It abides new blocks, and turns of blocks of no cells from n on. -/
def Abides (n : Nat) {β : Type} (I : β → World → Prop) : Prop := (∀ s W o, I s W → I s (W.alloc o)) ∧ ∀ s W l o o', I s W → n ≤ l → W.heap[l]? = some o → o.isCells = false → I s (W.putObj l o')

variable {F : Fence} {n : Nat} {P : Program}

theorem wpIn_rangeFunc_steps {α : Type} {g : Operand} {ps : Array Tmp} {assign body : Code} {Q : Exit → Act → World → Prop} {a : Act} {w : World}
    (hro : F.round = none) (h1 : 1 ≤ n) {gf : Nat} {lb : Array Value} (hg : a.eval g = .func (.func gf) #[] lb) (hFg : F.fn gf) (eg : ∀ args w, (callFunc gf args).run P w = .ok (.enter gf args) w)
    {encs : α → Array Value} {Kp G : World → World → Prop} {S Sp : List α → Prop} {Ok : List α → α → Prop} (hseq : Gives F (n - 1) P gf lb encs Kp G S Sp Ok w)
    (hKt : ∀ {A B C : World}, Kp A B → Kp B C → Kp A C) (hKa : ∀ (W : World) (o : Obj), Kp W (W.alloc o)) (hKb : ∀ (W : World) (l : Nat) (o' : Obj), w.heap.size ≤ l → Kp W (W.putObj l o'))
    (hG : ∀ (A B : World) (k : Nat) (o : Obj), G A B → w.heap.size ≤ k → A.heap[k]? = some o → o.isCells = false → B.heap[k]? = some o) (hps : ∀ x, (encs x).size = ps.size)
    (I : List α → World → Prop) (Ix : Code → List α → World → Prop) (hI : Abides w.heap.size I) (hIx : ∀ c, Abides w.heap.size (Ix c))
    (hIG : ∀ p A B, I p A → G A B → I p B) (hIxG : ∀ c p A B, Ix c p A → G A B → Ix c p B) (h0 : I [] w) (a₁ : α → Act)
    (hassign : ∀ (l : Nat) (x : α) (W : World) (K : Act → World → Prop), K (a₁ x) W →
      assign.wpIn (F.inRound l) (n - 1 - 1) P (Exit.then K (fun _ _ _ => False)) { tmps := (ps.zip (encs x)).foldl (fun t (p, v) => t.setIfInBounds p v) a.tmps, defers := [] } W)
    (hbody : ∀ (l : Nat) (pre : List α) (x : α) (W : World), I pre W → Ok pre x → body.wpIn (F.inRound l) (n - 1 - 1) P (ownPostK Kp I Ix (pre ++ [x]) W) (a₁ x) W)
    (hdone : ∀ (D : Nat) (xs : List α) (W : World), w.heap.size ≤ D → S xs → I xs W → W.heap[D]? = some (.deferred (some [])) → Q .normal { a with defers := { target := .collected D, args := #[] } :: a.defers } W)
    (hstop : ∀ (D : Nat) (c : Code) (pre : List α) (W : World), w.heap.size ≤ D → Sp pre → Ix c pre W → W.heap[D]? = some (.deferred (some [])) → c.wpIn F n P Q { a with defers := { target := .collected D, args := #[] } :: a.defers } W) :
    (Code.rangeFunc g ps assign body).wpIn F n P Q a w := by
  refine wpIn_rangeFunc fun fn hfn => ?_
  rw [hro]
  obtain ⟨D, hD⟩ : ∃ D, D = w.heap.size := ⟨_, rfl⟩
  obtain ⟨lp, hlp⟩ : ∃ lp : LoopState → Option Code → Loop, lp = fun st pe => { state := st, pending := pe, fn, tmps := a.tmps, params := ps, assign, body, defers := D } := ⟨_, rfl⟩
  obtain ⟨W1, hW1⟩ : ∃ W1, W1 = (w.alloc (.deferred (some []))).alloc (.loop (lp .ready none)) := ⟨_, rfl⟩
  have b1 : Book D (lp .ready none) W1 := by
    subst hW1 hD
    refine ⟨?_, (Below.heap_alloc _ _ _ (by simp)).trans (World.alloc_heap_new w _)⟩
    have := World.alloc_heap_new (w.alloc (.deferred (some []))) (.loop (lp .ready none))
    rwa [World.size_alloc] at this
  have i1 : I [] W1 := by subst hW1; exact hI.1 _ _ _ (hI.1 _ _ _ h0)
  have k1 : Kp w W1 := by subst hW1; exact hKt (hKa _ _) (hKa _ _)
  refine ⟨D + 1, [{ target := .collected D, args := #[] }], W1, { target := .fn (.func gf) lb, args := #[.func (.yield (D + 1)) #[] #[]] }, W1, gf, #[.func (.yield (D + 1)) #[] #[]] ++ lb, W1, ?_, ?_, ?_, ?_, fun _ => h1, ?_⟩
  · rw [hW1, hlp, hD]; exact run_enterLoop_outer _ _ _ _ _
  · simp only [resolve, hg]
    simp [go_sem]
  · intro f' hf'; simp [Target.leads] at hf'; subst hf'; exact hFg
  · simp [invoke, go_sem, eg]
  have kept : ∀ {A B : World} {r : Loop}, G A B → Book D r A → Book D r B := fun hGAB hb => ⟨hG _ _ _ _ hGAB (by omega) hb.1 rfl, hG _ _ _ _ hGAB (by omega) hb.2 rfl⟩
  refine (hseq (D + 1) (fun pre W => I pre W ∧ Book D (lp .ready none) W) (fun pre W => ∃ c, Ix c pre W ∧ Book D (lp .done (some c)) W) W1 k1
    (fun p A B hJ hGAB => ⟨hIG p A B hJ.1 hGAB, kept hGAB hJ.2⟩)
    (fun p A B hJ hGAB => by obtain ⟨c, h2, h3⟩ := hJ; exact ⟨c, hIxG c p A B h2 hGAB, kept hGAB h3⟩) ?_ ⟨i1, b1⟩).mono ?_
  · rintro pre x W ⟨hi, hb⟩ hlen
    have hy := run_yield (P := P) (args := encs x) hb.1 (by rw [hlp]; exact hps x)
    rw [hlp] at hy
    refine ⟨fn, _, assign, body, hy, roundIn_of_wpIn hfn (hassign _ x W _ ⟨_, run_beginRound hb.1 (by rw [hlp]), ?_⟩)⟩
    have hb2 : Book D { lp .ready none with state := .busy } (W.putObj (D + 1) (.loop { lp .ready none with state := .busy })) := hb.put _
    have kb : Kp W (W.putObj (D + 1) (.loop { lp .ready none with state := .busy })) := hKb _ _ _ (by omega)
    refine wpIn_mono (hbody _ pre x _ (hI.2 _ _ _ _ _ hi (by omega) hb.1 rfl) hlen) ?_
    have ended : ∀ (j : Option Code) (W3 : World), KeepsOthers (W.putObj (D + 1) (.loop { lp .ready none with state := .busy })) W3 →
        W3.heap[D + 1]? = some (.loop { lp .ready none with state := .busy }) ∧
        (Instr.endRound (D + 1) j).run P W3 = .ok (.bool j.isNone) (W3.putObj (D + 1) (.loop (lp (if j.isNone then .ready else .done) j))) ∧
        Book D (lp (if j.isNone then .ready else .done) j) (W3.putObj (D + 1) (.loop (lp (if j.isNone then .ready else .done) j))) := fun j W3 hk3 => by
      have h3 := hb2.keeps hk3
      have hr := run_endRound (P := P) j h3.1
      refine ⟨h3.1, ?_, h3.put _⟩
      rw [hlp] at hr ⊢
      exact hr
    have out : ∀ (c : Code) (W3 : World), KeepsOthers (W.putObj (D + 1) (.loop { lp .ready none with state := .busy })) W3 → Ix c (pre ++ [x]) W3 →
        ∃ v w4, (Instr.endRound (D + 1) (some c)).run P W3 = .ok v w4 ∧ ((Ending.returned v = .returned (.bool true) ∧ (I (pre ++ [x]) w4 ∧ Book D (lp .ready none) w4) ∧ Kp W w4) ∨ (Ending.returned v = .returned (.bool false) ∧ ∃ c, Ix c (pre ++ [x]) w4 ∧ Book D (lp .done (some c)) w4)) := fun c W3 hk3 hi3 => by
      obtain ⟨hl3, hr, h4⟩ := ended (some c) W3 hk3
      exact ⟨_, _, hr, .inr ⟨rfl, c, (hIx c).2 _ _ _ _ _ hi3 (by omega) hl3 rfl, h4⟩⟩
    rintro e a3 W3 hp
    cases e with
    | normal =>
      obtain ⟨hk3, hkp, hi3⟩ := hp
      obtain ⟨hl3, hr, h4⟩ := ended none W3 hk3
      exact ⟨_, _, hr, .inl ⟨rfl, ⟨hI.2 _ _ _ _ _ hi3 (by omega) hl3 rfl, h4⟩, hKt (hKt kb hkp) (hKb _ _ _ (by omega))⟩⟩
    | ret => exact out .ret W3 hp.1 hp.2
    | exit id => exact out (.exit id) W3 hp.1 hp.2
    | goto t => exact out (.goto t) W3 hp.1 hp.2
    | panic ch => exact hp.elim
    | outgrown => exact hp.elim
  · rintro e W2 ⟨⟨v, rfl⟩, (⟨xs, hS, hi, hb⟩ | ⟨pre, hSp, c, hi, hb⟩)⟩
    · have hr := run_endLoop (P := P) hb.1 (by rw [hlp]; simp)
      rw [hlp] at hr
      exact ⟨none, _, hr, hdone D xs _ (by omega) hS (hI.2 _ _ _ _ _ hi (by omega) hb.1 rfl) ((World.putObj_heap_other (by omega)).trans hb.2)⟩
    · have hr := run_endLoop (P := P) hb.1 (by rw [hlp]; simp)
      rw [hlp] at hr
      exact ⟨some c, _, hr, hstop D c pre _ (by omega) hSp ((hIx c).2 _ _ _ _ _ hi (by omega) hb.1 rfl) ((World.putObj_heap_other (by omega)).trans hb.2)⟩
end Go.Proofs.YtoegmajkfaokdaaDoor
