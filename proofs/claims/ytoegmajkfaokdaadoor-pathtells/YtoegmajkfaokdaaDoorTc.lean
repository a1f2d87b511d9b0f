/- Strings as bytes; (*Pen).Number where it refuses, Flag, Text, Bytes; bytes.Clone. -/
import Derived.Test.YtoegmajkfaokdaaDoorTb
import Derived.Laws.BytesArg
import Derived.Lib.SlBytesConst
namespace Go.Proofs.YtoegmajkfaokdaaDoor.Tp
open Go.RowKit

/-- A slice's bytes, as they lie below block B. -/
def Bts (w : World) (B : Nat) (A : Option Addr) (l : List Nat) : Prop :=
  0 < l.length → ∃ b o, A = some ⟨b, o, none⟩ ∧ b < B ∧ ∀ k c : Nat, l[k]? = some c → w.cell? ⟨b, o + k, none⟩ = some (.int .u8 (c : Int))
set_option maxRecDepth 100000 in
theorem Bts.below {w w' : World} {B : Nat} {A : Option Addr} {l : List Nat} (h : Bts w B A l) (hb : Below B w w') : Bts w' B A l := fun hp => by
  obtain ⟨b, o, hA, hlt, hc⟩ := h hp
  exact ⟨b, o, hA, hlt, fun k c hk => (hb.cell (p := ⟨b, o + k, none⟩) hlt).trans (hc k c hk)⟩
set_option maxRecDepth 100000 in
theorem Bts.more {w : World} {B B' : Nat} {A : Option Addr} {l : List Nat} (h : Bts w B A l) (hB : B ≤ B') : Bts w B' A l := fun hp => by
  obtain ⟨b, o, hA, hlt, hc⟩ := h hp
  exact ⟨b, o, hA, by omega, hc⟩
set_option maxRecDepth 100000 in
theorem Bts.none {w : World} {B : Nat} {l : List Nat} (h : Bts w B none l) : l = [] := by
  cases l with
  | nil => rfl
  | cons y r => obtain ⟨b, o', hA, _⟩ := h (by simp); cases hA

/-- Bytes as a string, and a string's bytes. -/
def str (l : List Nat) : ByteArray := strOfNums (l.map fun c : Nat => (c : Int))
def bys (s : ByteArray) : List Nat := s.data.toList.map UInt8.toNat

set_option maxRecDepth 100000 in
theorem str_append (a b : List Nat) : str a ++ str b = str (a ++ b) := by
  apply ByteArray.ext
  simp [str, strOfNums, ByteArray.data_append]
set_option maxRecDepth 100000 in
theorem str_inj {a b : List Nat} (ha : Sml a) (hb : Sml b) (h : str a = str b) : a = b := by
  have h1 := congrArg (fun s : ByteArray => s.data.toList) h
  simp only [str, strOfNums_data, List.map_map] at h1
  have h2 := congrArg (List.map UInt8.toNat) h1
  rw [List.map_map, List.map_map] at h2
  have key : ∀ {l : List Nat}, Sml l → l.map (UInt8.toNat ∘ (fun n => UInt8.ofNat n.toNat) ∘ fun c : Nat => (c : Int)) = l := by
    intro l hl
    conv => rhs; rw [← List.map_id l]
    refine List.map_congr_left fun c hc => ?_
    have := hl c hc
    simp [UInt8.toNat_ofNat', Nat.mod_eq_of_lt this]
  rwa [key ha, key hb] at h2
set_option maxRecDepth 100000 in
theorem str_size (l : List Nat) : (str l).size = l.length := by simp [str, strOfNums_size]
set_option maxRecDepth 100000 in
theorem bys_length (s : ByteArray) : (bys s).length = s.size := by simp [bys]
set_option maxRecDepth 100000 in
theorem bys_sml (s : ByteArray) : Sml (bys s) := by
  intro c hc
  simp [bys] at hc
  obtain ⟨u, _, rfl⟩ := hc
  exact u.toNat_lt
set_option maxRecDepth 100000 in
theorem str_bys (s : ByteArray) : str (bys s) = s := by
  apply ByteArray.ext
  apply Array.ext'
  simp only [str, bys, strOfNums_data, List.map_map]
  conv => rhs; rw [← List.map_id s.data.toList]
  refine List.map_congr_left fun c _ => ?_
  simp
set_option maxRecDepth 100000 in
theorem bys_str {l : List Nat} (h : Sml l) : bys (str l) = l := str_inj (bys_sml _) h (str_bys _)
set_option maxRecDepth 100000 in
theorem strCells_bys (s : ByteArray) : Lib.strCells s = cellsOf (bys s) := by simp [Lib.strCells, cellsOf, bys, List.map_map, Function.comp_def]

set_option maxRecDepth 100000 in
theorem conv_str {w : World} {B : Nat} {A : Option Addr} {l : List Nat} (h : Bts w B A l) (c : Nat) : (convert 33 9 (.slice A l.length c)).run Tryd.prog w = .ok (.string (str l)) w := by
  cases A with
  | none =>
    have hl0 := h.none
    subst hl0
    exact run_convert_bytes_nil w 33 5 Tryd.underlying33 Tryd.underlying5 _ c 9 Tryd.underlying9
  | some a =>
    rcases Nat.eq_zero_or_pos l.length with hl | hl
    · have hl0 : l = [] := List.eq_nil_of_length_eq_zero hl
      subst hl0
      obtain ⟨b, o, spot⟩ := a
      rw [run_convert_bytes_string w 33 9 5 _ _ _ Tryd.underlying33 Tryd.underlying5 Tryd.underlying9]
      exact run_bytesToString w _ 0 c [] rfl
    · obtain ⟨b, o, hA, _, hc⟩ := h hl
      injection hA with hA
      subst hA
      refine run_convert_bytes_arg w 33 5 Tryd.underlying33 Tryd.underlying5 b o l.length c (l.map fun c : Nat => (c : Int)) (by simp) (fun i hi => ?_) 9 Tryd.underlying9
      rw [hc i _ (List.getElem?_eq_getElem hi)]
      simp [List.getD_eq_getElem?_getD, hi]

set_option maxRecDepth 100000 in
theorem add_str {a b : ByteArray} (W : World) (ha : a.size ≤ 1000000) (hb : b.size ≤ 1000000) : (Op.stringOp .add a b).run Tryd.prog W = .ok (.string (a ++ b)) W :=
  run_string_add_sum W _ _ (by omega)

set_option maxRecDepth 100000 in
theorem OwnB.bts {w : World} {A : Option Addr} {n c : Nat} {l : List Nat} (h : OwnB w (.slice A n c) l) : n = l.length ∧ Bts w w.heap.size A l ∧ (A = none → c = 0) := by
  have h0 : w.ownsRow 0 5 1 (.slice A n c) l.length (cellsOf l) := h
  rcases h.2 with ⟨h1, he⟩ | ⟨g, cap, cur, h1, hb, hh, hr⟩
  · injection h1 with e1 e2 e3
    subst e1 e2 e3
    refine ⟨he.symm, fun hp => by omega, fun _ => rfl⟩
  · injection h1 with e1 e2 e3
    subst e1 e2 e3
    refine ⟨rfl, fun _ => ⟨g, 0, rfl, (h0.lt g rfl).2, fun k c hk => ?_⟩, fun h => by cases h⟩
    have := h0.cells (g := g) rfl k _ (cellsOf_at hk)
    rw [Go.WideShapes.add_plain] at this
    exact this

set_option maxRecDepth 100000 in
theorem Bts.cells {w : World} {B : Nat} {a : Addr} {l : List Nat} (h : Bts w B (some a) l) : ∀ j u, (cellsOf l)[j]? = some u → w.cell? (a.add j) = some u := by
  intro j u hu
  obtain ⟨c, hc, rfl⟩ := cellsOf_get hu
  have hp : 0 < l.length := by
    have := (List.getElem?_eq_some_iff.1 hc).1
    omega
  obtain ⟨b, o, hA, _, hx⟩ := h hp
  injection hA with hA
  subst hA
  rw [Go.WideShapes.add_plain]
  exact hx j c hc

/-- It returns a slice of these bytes in new memory. -/
def RetCopy (w : World) (l : List Nat) (e : Ending) (w' : World) : Prop := ∃ A c, e = .returned (.slice A l.length c) ∧ Bts w' w'.heap.size A l ∧ (∀ a : Addr, A = some a → ∃ b, a = ⟨b, 0, none⟩ ∧ w.heap.size ≤ b ∧ b < w'.heap.size) ∧ (A = none → c = 0) ∧ l.length ≤ c ∧ c ≤ maxLen ∧ Below w.heap.size w w'

set_option maxRecDepth 100000 in
theorem clone_any {w : World} {A : Option Addr} {c : Nat} {l : List Nat} (hl : Bts w w.heap.size A l) (hc : A = none → c = 0) (hn : l.length ≤ 900000) :
    Calls Tryd.prog 40 #[.slice A l.length c] w (RetCopy w l) := by
  obtain ⟨i0, hi, hz0, hz1, hz2⟩ := info_parts Tryd.info5
  cases A with
  | none =>
    have hl0 := hl.none
    subst hl0
    have hc0 := hc rfl
    subst hc0
    clear hc
    have hq : ∀ w : World, (binOp .eql 33 (.slice none 0 0) (.slice none 0 0)).run Tryd.prog w = .ok (.bool true) w := fun _ => rfl
    go_enter Tryd.func40, Tryd.ntmps40
    go_wp2_with fail
    go_ret
    exact ⟨none, 0, rfl, fun h => absurd h (by simp), (fun _ h => by cases h), fun _ => rfl, by simp, by simp, Below.refl _ _⟩
  | some a =>
    have HL := Lib.hid hl
    clear hl hc
    have hq : ∀ w : World, (binOp .eql 33 (.slice (some a) l.length c) (.slice none 0 0)).run Tryd.prog w = .ok (.bool false) w := fun _ => rfl
    go_enter Tryd.func40, Tryd.ntmps40
    go_wp2_with (first
      | (at_builtin; refine wpList_append_own _ rfl _ _ 33 rfl w.heap.size 5 i0 _ 1 1 Tryd.underlying33 hi hz0 hz1 hz2 rfl (by decide) _ 0 [] rfl (World.ownsRow_lit (base := w.heap.size) w #[] 0 (Nat.le_refl _) (by unfold maxLen; omega) rfl) a l.length c (cellsOf l) rfl (by rw [cellsOf_length, Nat.mul_one]) (HL.out.below ((Below.refl _ _).alloc (Nat.le_refl _) _)).cells (cellsOf_one l) (by unfold maxLen; omega) (by omega) (by simp) ?_))
    intro v' w1 hown hgrow _
    have hb1 : Below w.heap.size w w1 := ((Below.refl _ _).alloc (Nat.le_refl _) _).grown hgrow (by simp) (fun k hk => by simp [Value.ownBlock] at hk; omega)
    have HO := Lib.hid hown
    clear hown hgrow
    go_wp2_with fail
    go_ret
    have h0 := HO.out
    rcases h0.2 with ⟨rfl, he⟩ | ⟨g, cap, cur, rfl, hb, hh, hnc, hcm, _⟩
    · have hl0 : l = [] := List.eq_nil_of_length_eq_zero he
      subst hl0
      exact ⟨none, 0, rfl, fun h => absurd h (by simp), (fun _ h => by cases h), fun _ => rfl, by simp, by simp, hb1⟩
    · refine ⟨some ⟨g, 0, none⟩, cap, rfl, fun _ => ⟨g, 0, rfl, (h0.lt g rfl).2, fun k c hk => ?_⟩, fun a ha => ?_, (fun h => by cases h), hnc, hcm, hb1⟩
      · have := h0.cells (g := g) rfl k _ (cellsOf_at hk)
        rw [Go.WideShapes.add_plain] at this
        exact this
      · injection ha with ha
        subst ha
        exact ⟨g, rfl, hb, (h0.lt g rfl).2⟩

set_option maxRecDepth 100000 in
theorem pen_bytes {w : World} {g : Nat} {k : Option Nat} {l : List Nat} (hp : PenAt w g k l) (hn : l.length ≤ 900000) : Calls Tryd.prog 19 #[.pointer (some ⟨g, 0, none⟩)] w (RetCopy w l) := by
  obtain ⟨v, hc, hf, hv, ho, hne⟩ := hp
  obtain ⟨A, n, c, rfl⟩ := ho.slice
  obtain ⟨rfl, hb, hA⟩ := ho.bts
  have H := Lib.hid (clone_any (c := c) hb hA hn)
  clear ho hb hA hv hne hf
  go_enter Tryd.func19, Tryd.ntmps19
  go_wp2_with fail
  refine H.out.mono ?_
  rintro e w' ⟨A', c', rfl, h1, h2, h3, h4, h5, h6⟩
  have HR : Hid (RetCopy w l (.returned (.slice A' l.length c')) w') := ⟨A', c', rfl, h1, h2, h3, h4, h5, h6⟩
  clear h1 h2 h3 h4 h5 h6
  go_wp2_with fail
  go_ret
  exact HR.out

set_option maxRecDepth 100000 in
theorem nil_bytes (w : World) : Calls Tryd.prog 19 #[.pointer none] w fun e w' => e = .returned (.slice none 0 0) ∧ w = w' := by
  go_enter Tryd.func19, Tryd.ntmps19
  go_wp2_with fail
  go_ret
  exact ⟨rfl, rfl⟩

set_option maxRecDepth 100000 in
theorem nil_number (w : World) (n : Int) : Calls Tryd.prog 39 #[.pointer none, .int .i64 n] w fun e w' => e = .returned (.bool false) ∧ w = w' := by
  go_enter Tryd.func39, Tryd.ntmps39
  go_wp2_with fail
  go_ret
  exact ⟨rfl, rfl⟩

set_option maxRecDepth 100000 in
theorem pen_refuse (w : World) (g : Nat) {n : Int} (hn : n < 0 ∨ 4611686018427387903 < n) : Calls Tryd.prog 39 #[.pointer (some ⟨g, 0, none⟩), .int .i64 n] w fun e w' => e = .returned (.bool false) ∧ w = w' := by
  rcases hn with hn | hn
  · go_enter Tryd.func39, Tryd.ntmps39
    go_wp2_with fail
    go_ret
    exact ⟨rfl, rfl⟩
  · have h0 : ¬ n < 0 := by omega
    go_enter Tryd.func39, Tryd.ntmps39
    go_wp2_with fail
    go_ret
    exact ⟨rfl, rfl⟩

end Go.Proofs.YtoegmajkfaokdaaDoor.Tp
