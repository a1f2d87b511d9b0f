/- Tapes in memory; New, Err, Number and Flag of a tape. -/
import Derived.Test.YtoegmajkfaokdaaDoorTe
namespace Go.Proofs.YtoegmajkfaokdaaDoor.Tp
open Go.RowKit

/-- A slice of bytes in block k. -/
def Row (w : World) (k : Option Nat) (A : Option Addr) (c : Nat) (l : List Nat) : Prop :=
  (A = none ∧ c = 0 ∧ k = none ∧ l = []) ∨
    ∃ b o, A = some ⟨b, o, none⟩ ∧ k = some b ∧ b < w.heap.size ∧ l.length ≤ c ∧ c ≤ maxLen ∧ ∀ i d : Nat, l[i]? = some d → w.cell? ⟨b, o + i, none⟩ = some (.int .u8 (d : Int))

set_option maxRecDepth 100000 in
theorem Row.bts {w : World} {k : Option Nat} {A : Option Addr} {c : Nat} {l : List Nat} (h : Row w k A c l) : Bts w w.heap.size A l := by
  rcases h with ⟨_, _, _, rfl⟩ | ⟨b, o, hA, _, hb, _, _, hc⟩
  · intro h; simp at h
  · intro _; exact ⟨b, o, hA, hb, hc⟩
set_option maxRecDepth 100000 in
theorem Row.kp {S : Nat → Prop} {w w' : World} {k : Option Nat} {A : Option Addr} {c : Nat} {l : List Nat} (h : Row w k A c l) (hk : Kp S w w') (hr : ∀ j, k = some j → ¬ S j) : Row w' k A c l := by
  rcases h with h | ⟨b, o, hA, hkb, hb, h1, h2, hc⟩
  · exact .inl h
  · exact .inr ⟨b, o, hA, hkb, Nat.lt_of_lt_of_le hb hk.size, h1, h2, fun i d hi => hk.cell (hc i d hi) (hr b hkb)⟩

/-- A tape in block g, its bytes in block k: l is left, E its first fault. -/
def TapeAt (w : World) (g : Nat) (k : Option Nat) (l : List Nat) (E : Value) : Prop :=
  ∃ A c, w.cell? ⟨g, 0, none⟩ = some (.slice A l.length c) ∧ w.cell? ⟨g, 1, none⟩ = some E ∧ w.frozen? ⟨g, 0, none⟩ = false ∧ w.frozen? ⟨g, 1, none⟩ = false ∧ Row w k A c l ∧ k ≠ some g

set_option maxRecDepth 100000 in
theorem TapeAt.lt {w : World} {g : Nat} {k : Option Nat} {l : List Nat} {E : Value} (h : TapeAt w g k l E) : g < w.heap.size := by
  obtain ⟨A, c, h1, _⟩ := h
  exact World.block_lt_of_cell? w _ h1
set_option maxRecDepth 100000 in
theorem TapeAt.row_lt {w : World} {g : Nat} {k : Option Nat} {l : List Nat} {E : Value} (h : TapeAt w g k l E) : ∀ j, k = some j → j < w.heap.size := by
  obtain ⟨A, c, _, _, _, _, hr, _⟩ := h
  rcases hr with ⟨_, _, hk, _⟩ | ⟨b, o, _, hk, hb, _⟩
  · intro j hj; rw [hk] at hj; cases hj
  · intro j hj; rw [hk] at hj; injection hj with hj; omega
set_option maxRecDepth 100000 in
theorem TapeAt.kp {S : Nat → Prop} {w w' : World} {g : Nat} {k : Option Nat} {l : List Nat} {E : Value} (h : TapeAt w g k l E) (hk : Kp S w w') (hg : ¬ S g) (hr : ∀ j, k = some j → ¬ S j) : TapeAt w' g k l E := by
  have hlt := h.lt
  obtain ⟨A, c, h1, h2, h3, h4, h5, h6⟩ := h
  exact ⟨A, c, hk.cell h1 hg, hk.cell h2 hg, (hk.frozen hg hlt).trans h3, (hk.frozen hg hlt).trans h4, h5.kp hk hr, h6⟩

set_option maxRecDepth 100000 in
theorem TapeAt.setErr {w : World} {g : Nat} {k : Option Nat} {l : List Nat} {E : Value} (h : TapeAt w g k l E) (E' : Value) : TapeAt (w.setCell ⟨g, 1, none⟩ E') g k l E' := by
  have hw : Kp (fun b => b = g) w (w.setCell ⟨g, 1, none⟩ E') := Kp.setCell (S := fun b => b = g) (Kp.refl _ _) (fun _ => rfl) _
  obtain ⟨A, c, h1, h2, h3, h4, h5, h6⟩ := h
  refine ⟨A, c, ?_, World.cell?_setCell_same' _ _ _ (by rw [h2]; rfl), by rw [World.frozen?_setCell]; exact h3, by rw [World.frozen?_setCell]; exact h4, h5.kp hw (fun j hj e => by subst e; exact h6 hj), h6⟩
  rw [World.cell?_setCell_other _ _ _ _ (by simp)]
  exact h1
set_option maxRecDepth 100000 in
theorem TapeAt.setLeft {w : World} {g : Nat} {k : Option Nat} {l l' : List Nat} {E : Value} (h : TapeAt w g k l E) {A' : Option Addr} {c' n : Nat} (hr : Row w k A' c' l') (hn : n = l'.length) : TapeAt (w.setCell ⟨g, 0, none⟩ (.slice A' n c')) g k l' E := by
  subst hn
  have hw : Kp (fun b => b = g) w (w.setCell ⟨g, 0, none⟩ (.slice A' l'.length c')) := Kp.setCell (S := fun b => b = g) (Kp.refl _ _) (fun _ => rfl) _
  obtain ⟨A, c, h1, h2, h3, h4, h5, h6⟩ := h
  refine ⟨A', c', World.cell?_setCell_same' _ _ _ (by rw [h1]; rfl), ?_, by rw [World.frozen?_setCell]; exact h3, by rw [World.frozen?_setCell]; exact h4, hr.kp hw (fun j hj e => by subst e; exact h6 hj), h6⟩
  rw [World.cell?_setCell_other _ _ _ _ (by simp)]
  exact h2
set_option maxRecDepth 100000 in
theorem TapeAt.alloc {w : World} {g : Nat} {k : Option Nat} {l : List Nat} {E : Value} (h : TapeAt w g k l E) (o : Obj) : TapeAt (w.alloc o) g k l E :=
  h.kp (S := fun _ => False) ((Kp.refl _ w).alloc _) (fun h => h) (fun _ _ h => h)

def RetTape (w : World) (l : List Nat) (e : Ending) (w' : World) : Prop :=
  ∃ g k, e = .returned (.pointer (some ⟨g, 0, none⟩)) ∧ TapeAt w' g k l .nilIface ∧ w.heap.size ≤ g ∧ (∀ j, k = some j → w.heap.size ≤ j) ∧ Below w.heap.size w w'

set_option maxRecDepth 100000 in
theorem tape_new {w : World} {A : Option Addr} {c : Nat} {l : List Nat} (hl : Bts w w.heap.size A l) (hc : A = none → c = 0) (hn : l.length ≤ 900000) :
    Calls Tryd.prog 27 #[.slice A l.length c] w (RetTape w l) := by
  have H := Lib.hid (clone_any hl hc hn)
  clear hl hc
  go_enter Tryd.func27, Tryd.ntmps27
  go_wp2_with fail
  refine H.out.mono ?_
  rintro e w' ⟨A', c', rfl, h1, h2, h3, h4, h5, h6⟩
  have HB := Lib.hid h6
  have HR : Hid (∃ k, Row w' k A' c' l ∧ ∀ j, k = some j → w.heap.size ≤ j) := by
    cases A' with
    | none => exact ⟨none, .inl ⟨rfl, h3 rfl, rfl, h1.none⟩, fun j hj => by cases hj⟩
    | some a =>
      obtain ⟨b, rfl, hb1, hb2⟩ := h2 _ rfl
      refine ⟨some b, .inr ⟨b, 0, rfl, rfl, hb2, h4, h5, fun i d hi => ?_⟩, fun j hj => by injection hj with hj; rw [← hj]; exact hb1⟩
      obtain ⟨b', o', hA, hb', hc'⟩ := h1 (by have := (List.getElem?_eq_some_iff.1 hi).1; omega)
      injection hA with hA
      injection hA with e1 e2 e3
      subst e1 e2
      exact hc' i d hi
  clear h1 h2 h3 h4 h5 h6
  go_wp2_with fail
  go_ret
  obtain ⟨k, hr, hk⟩ := HR.out
  have hw := (Kp.refl (fun _ => False) w').alloc (.cells #[.slice A' l.length c', .nilIface] 71)
  refine ⟨w'.heap.size, k, rfl, ⟨A', c', by simp, by simp, by simp, by simp, hr.kp hw (fun _ _ h => h), ?_⟩, HB.out.size, hk, HB.out.alloc HB.out.size _⟩
  intro h
  rcases hr with ⟨_, _, hk2, _⟩ | ⟨b, o, _, hk2, hb, _⟩
  · rw [hk2] at h; cases h
  · rw [hk2] at h; injection h with h; omega

set_option maxRecDepth 100000 in
theorem tape_err {w : World} {g : Nat} {k : Option Nat} {l : List Nat} {E : Value} (h : TapeAt w g k l E) : Calls Tryd.prog 47 #[.pointer (some ⟨g, 0, none⟩)] w fun e w' => e = .returned E ∧ w = w' := by
  obtain ⟨A, c, h1, h2, h3, h4, h5, h6⟩ := h
  clear h1 h3 h4 h5 h6
  go_enter Tryd.func47, Tryd.ntmps47
  go_wp2_with fail
  go_ret
  exact ⟨rfl, rfl⟩

set_option maxRecDepth 100000 in
theorem tape_number_fault {w : World} {g : Nat} {k : Option Nat} {l : List Nat} {T : TypeId} {x : Value} {most : Int} (h : TapeAt w g k l (.iface T x)) :
    Calls Tryd.prog 46 #[.pointer (some ⟨g, 0, none⟩), .int .i64 most] w fun e w' => e = .returned (.int .i64 0) ∧ w = w' := by
  have H := Lib.hid (tape_err h)
  clear h
  go_enter Tryd.func46, Tryd.ntmps46
  go_wp2_with (go_at_call 47; refine H.out.mono ?_; rintro e w' ⟨rfl, rfl⟩)
  go_ret
  exact ⟨rfl, rfl⟩

set_option maxRecDepth 100000 in
theorem Tryd.size5 : ∀ w, (Go.sizeOf 5).run Tryd.prog w = .ok 1 w := fun _ => by kernel_rfl
set_option maxRecDepth 100000 in
theorem Tryd.elem33 : Tryd.prog.elem 33 = 5 := by kernel_rfl
set_option maxRecDepth 100000 in
theorem Tryd.under33 : Tryd.prog.underlying 33 = some (.slice (Tryd.prog.elem 33)) := by kernel_rfl
set_option maxRecDepth 100000 in
theorem slice_to (b o n r c : Nat) (hc : n + r ≤ c) (W : World) : (Instr.slice 33 (.slice (some ⟨b, o, none⟩) (n + r) c) none (some (.int .i64 (n : Int))) none).run Tryd.prog W = .ok (.slice (some ⟨b, o, none⟩) n c) W := by
  rw [run_slice_h W 33 _ _ _ Tryd.under33 .i64 _ (by omega) (by omega), Tryd.elem33, Tryd.size5]
  simp [Result.andThen, sliced, Addr.add]
set_option maxRecDepth 100000 in
theorem slice_from (b o n r c : Nat) (hc : n + r ≤ c) : ∃ o', (0 < r → o' = o + n) ∧ ∀ W : World, (Instr.slice 33 (.slice (some ⟨b, o, none⟩) (n + r) c) (some (.int .i64 (n : Int))) none none).run Tryd.prog W = .ok (.slice (some ⟨b, o', none⟩) r (c - n)) W := by
  by_cases hne : c = n
  · refine ⟨o, fun h => by omega, fun W => ?_⟩
    rw [run_slice_l W 33 _ _ _ Tryd.under33 .i64 _ (by omega) (by omega), Tryd.elem33, Tryd.size5]
    have hr : r = 0 := by omega
    subst hne hr
    simp [Result.andThen, sliced]
  · refine ⟨o + n, fun _ => rfl, fun W => ?_⟩
    rw [run_slice_l W 33 _ _ _ Tryd.under33 .i64 _ (by omega) (by omega), Tryd.elem33, Tryd.size5]
    by_cases h0 : n = 0
    · subst h0
      simp [Result.andThen, sliced, Addr.add, hne]
    · simp [Result.andThen, sliced, Addr.add, hne, h0]

def TNum (w : World) (g : Nat) (k : Option Nat) (l : List Nat) (most : Int) (e : Ending) (w' : World) : Prop :=
  Kp (fun b => b = g) w w' ∧ ((∃ n r, l = enc n ++ r ∧ (n : Int) ≤ most ∧ n < 9223372036854775808 ∧ e = .returned (.int .i64 (n : Int)) ∧ TapeAt w' g k r .nilIface) ∨
    (NoNum l most ∧ e = .returned (.int .i64 0) ∧ ∃ T x, TapeAt w' g k l (.iface T x)))

set_option maxRecDepth 100000 in
/-- The rest of a row behind its first bytes. -/
theorem Row.rest {w : World} {k : Option Nat} {b o o' c : Nat} {p r : List Nat} (h : Row w k (some ⟨b, o, none⟩) c (p ++ r)) (ho : 0 < r.length → o' = o + p.length) : Row w k (some ⟨b, o', none⟩) (c - p.length) r := by
  rcases h with ⟨h, _⟩ | ⟨b', o1, hA, hk, hb, h1, h2, hc⟩
  · cases h
  · injection hA with hA
    injection hA with e1 e2
    subst e1 e2
    rw [List.length_append] at h1
    refine .inr ⟨b, o', rfl, hk, hb, by omega, by omega, fun i d hi => ?_⟩
    have hlt := (List.getElem?_eq_some_iff.1 hi).1
    rw [ho (by omega), Nat.add_assoc]
    exact hc _ d (by rw [List.getElem?_append_right (by omega), Nat.add_sub_cancel_left]; exact hi)

set_option maxRecDepth 100000 in
theorem tape_number {w : World} {g : Nat} {k : Option Nat} {l : List Nat} {most : Int} (h : TapeAt w g k l .nilIface) (hs : Sml l) (hn : l.length ≤ 900000) :
    Calls Tryd.prog 46 #[.pointer (some ⟨g, 0, none⟩), .int .i64 most] w (TNum w g k l most) := by
  have HT := Lib.hid h
  have H20 := Lib.hid (tape_err h)
  obtain ⟨A, c, h1, h2, h3, h4, h5, h6⟩ := h
  have H21 := Lib.hid (number_any (c := c) (most := most) h5.bts hs hn)
  have HR := Lib.hid h5
  have HG := Lib.hid h6
  clear h5 h6
  obtain ⟨len, hlen⟩ : ∃ len, len = l.length := ⟨_, rfl⟩
  rw [← hlen] at h1 H21
  have HLen := Lib.hid hlen
  clear hlen
  go_enter Tryd.func46, Tryd.ntmps46
  go_wp2_with (go_at_call 47; refine H20.out.mono ?_; rintro e w' ⟨rfl, rfl⟩)
  refine H21.out.mono ?_
  rintro e w1 ⟨rfl, ⟨n, r, hl, hle, hlt, rfl⟩ | ⟨hno, q, hq, rfl⟩⟩
  · obtain ⟨p, hp⟩ : ∃ p, p = enc n := ⟨_, rfl⟩
    rw [← hp] at hl ⊢
    have hpos := enc_pos n
    rw [← hp] at hpos
    subst hl
    have hlen := HLen.out
    rw [List.length_append] at hlen
    subst hlen
    cases A with
    | none =>
      rcases HR.out with ⟨_, _, _, h⟩ | ⟨b, o, h, _⟩
      · simp at h; rw [h.1] at hpos; simp at hpos
      · cases h
    | some a =>
      rcases HR.out with ⟨h, _⟩ | ⟨b, o, hA, hk, hb, hlc, hcm, _⟩
      · cases h
      · injection hA with hA
        subst hA
        rw [List.length_append] at hlc
        obtain ⟨o', ho', hsl⟩ := slice_from b o p.length r.length c hlc
        have HO := Lib.hid ho'
        have HP := Lib.hid hp
        have HLe := Lib.hid hle
        clear ho' hp hle hk
        go_wp2_with fail
        go_ret
        have hw : Kp (fun b => b = g) w (w.setCell ⟨g, 0, none⟩ (.slice (some ⟨b, o', none⟩) r.length (c - p.length))) := Kp.setCell (S := fun b => b = g) (Kp.refl _ _) (fun _ => rfl) _
        exact ⟨hw, .inl ⟨n, r, by rw [HP.out], HLe.out, hlt, rfl, HT.out.setLeft (HR.out.rest HO.out) rfl⟩⟩
  · have hq2 : ¬ q = 0 := by simpa using hq
    have HN := Lib.hid hno
    have H22 := Lib.hid (fun W => new_new ⟨#[116, 97, 112, 101]⟩ q W hq)
    have hglt := HT.out.lt
    clear hno hq h1 h3 HR
    go_wp2_with (go_at_call 61; refine (H22.out _).mono ?_; rintro e w' ⟨rfl, rfl⟩)
    go_ret
    exact ⟨(Kp.setCell (S := fun b => b = g) (Kp.refl _ _) (fun _ => rfl) _).alloc _, .inr ⟨HN.out, rfl, 116, _, (HT.out.setErr _).alloc _⟩⟩

end Go.Proofs.YtoegmajkfaokdaaDoor.Tp
