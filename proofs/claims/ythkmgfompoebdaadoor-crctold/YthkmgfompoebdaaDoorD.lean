/- crc.Seal returns, in new memory, its bytes and their checksum, the most significant byte first. -/
import Derived.Test.YthkmgfompoebdaaDoorC
import Derived.Laws.MakeOwn
namespace Go.Proofs.YthkmgfompoebdaaDoor
open Go.RowKit

/-- A checksum's four bytes. -/
def be4 (v : Nat) : List Nat := [v / 16777216, v / 65536 % 256, v / 256 % 256, v % 256]
def sealed (l : List Nat) : List Nat := l ++ be4 (crc l)

theorem be4_sml {v : Nat} (h : v < 4294967296) : Sml (be4 v) := by
  intro c hc
  simp [be4] at hc
  omega
theorem crc_lt (l : List Nat) : crc l < 4294967296 := by unfold crc; omega
theorem Sml.append {a b : List Nat} (ha : Sml a) (hb : Sml b) : Sml (a ++ b) := fun c hc => by
  rcases List.mem_append.1 hc with h | h
  · exact ha c h
  · exact hb c h
theorem sealed_sml {l : List Nat} (h : Sml l) : Sml (sealed l) := h.append (be4_sml (crc_lt l))

/-- It returns a row of its own of these bytes. -/
def RetRow (w : World) (l : List Nat) (e : Ending) (w' : World) : Prop := ∃ v, e = .returned v ∧ w'.ownsRow w.heap.size 5 1 v l.length (cellsOf l) ∧ Below w.heap.size w w'

theorem own_mono {w : World} {base base' n : Nat} {v : Value} {xs : List Value} (h : w.ownsRow base 5 1 v n xs) (hb : base' ≤ base) : w.ownsRow base' 5 1 v n xs :=
  ⟨h.1, h.2.imp id fun ⟨g, cap, cur, hv, hg, r⟩ => ⟨g, cap, cur, hv, Nat.le_trans hb hg, r⟩⟩

theorem Tryd.make28 (n : Nat) (hn : n ≤ 1000000) (w : World) :
    (Instr.makeSlice 28 (.int .i64 0) (.int .i64 ((n : Int) + 4))).run Tryd.prog w = .ok (.slice (some ⟨w.heap.size, 0, none⟩) 0 (n + 4)) (w.alloc (.cells (madeCells #[.int .u8 0] (n + 4)) 5)) := by
  obtain ⟨i0, hi, hz0, hz1, hz2⟩ := info_parts Tryd.info5
  have hr := run_make (P := Tryd.prog) w 28 5 i0 _ Tryd.underlying28 hi hz0 .i64 .i64 0 ((n : Int) + 4) (by omega) (by omega) (by rw [hz2]; omega) (by omega)
  have e : ((n : Int) + 4).toNat = n + 4 := by omega
  rw [e, hz1, Nat.mul_one] at hr
  exact hr

/-- The four bytes, laid into a block of their own. -/
theorem be4_laid (w : World) (v : Nat) : Bts (w.alloc (.cells #[.int .u8 ((v : Int) / 16777216), .int .u8 ((v : Int) / 65536 % 256), .int .u8 ((v : Int) / 256 % 256), .int .u8 ((v : Int) % 256)] 5)) (w.heap.size + 1) (some ⟨w.heap.size, 0, none⟩) (be4 v) := by
  intro _
  refine ⟨w.heap.size, 0, rfl, by omega, fun k c hk => ?_⟩
  rw [cell_of_row _ _ _ _ _ _ (heap_alloc_new w _), Nat.zero_add]
  match k, hk with
  | 0, hk => simp [be4] at hk; subst hk; simp
  | 1, hk => simp [be4] at hk; subst hk; simp
  | 2, hk => simp [be4] at hk; subst hk; simp
  | 3, hk => simp [be4] at hk; subst hk; simp
  | k + 4, hk => simp [be4] at hk

set_option maxRecDepth 100000 in
theorem seal_any {w : World} {A : Option Addr} {c : Nat} {l : List Nat} (ht : TabIn w) (hl : Bts w w.heap.size A l) (hc : A = none → c = 0) (hs : Sml l) (hn : l.length ≤ 10000) :
    Calls Tryd.prog 11 #[.slice A l.length c] w (RetRow w (sealed l)) := by
  have H10 := Lib.hid (of_any (c := c) ht hl hs (by omega))
  have HL := Lib.hid hl
  have HC := Lib.hid hc
  have hv := crc_lt l
  have HV : Hid (sealed l = l ++ be4 (crc l)) := rfl
  obtain ⟨v, hve⟩ : ∃ v, v = crc l := ⟨_, rfl⟩
  rw [← hve] at H10 hv HV
  have hmk := Tryd.make28 l.length (by omega)
  clear ht hl hc hs hve
  go_enter Tryd.func11, Tryd.ntmps11
  go_wp2_with fail
  refine H10.out.mono ?_
  rintro e w1 ⟨rfl, hb1⟩
  have hs1 := hb1.size
  have L1 := Lib.hid ((HL.out.below hb1).more hs1)
  have B1 := Lib.hid hb1
  clear hb1 H10 HL
  go_wp2_with (first
    | (at_builtin; refine wpList_append_bts rfl _ _ rfl w1.heap.size _ 0 [] rfl (World.ownsRow_made w1 _ (l.length + 4) (Nat.le_refl _) (by unfold maxLen; omega) (by rw [size_madeCells, Nat.mul_one])) w1.heap.size A c l rfl (L1.out.below ((Below.refl _ _).alloc (Nat.le_refl _) _)) HC.out (by omega) (by simp) ?_))
  intro v1 w2 hown hgrow
  have hb2 : Below w1.heap.size w1 w2 := ((Below.refl _ _).alloc (Nat.le_refl _) _).grown hgrow (by simp) (fun k hk => by simp [Value.ownBlock] at hk; omega)
  have hs2 := hb2.size
  have hown1 : w2.ownsRow w1.heap.size 5 1 v1 l.length (cellsOf l) := by simpa using hown
  have HO := Lib.hid hown1
  have B2 := Lib.hid (B1.out.trans (hb2.mono hs1))
  clear hown hown1 hgrow hb2 B1 L1 hmk
  go_wp2_with (first
    | (at_builtin; refine wpList_append_bts rfl _ _ rfl w1.heap.size _ l.length l rfl (HO.out.alloc _) (w2.heap.size + 1) (some ⟨w2.heap.size, 0, none⟩) 4 (be4 v) rfl (be4_laid w2 v) (fun h => by cases h) (by simp [be4]; omega) (by simp; omega) ?_))
  intro v3 w3 hown hgrow
  have hb3 : Below w1.heap.size w2 w3 := ((Below.refl _ _).alloc hs2 _).grown hgrow (by simp; omega) (fun k hk => (HO.out.lt k hk).1)
  have hown3 := Lib.hid hown
  have B3 := Lib.hid (B2.out.trans (hb3.mono hs1))
  clear hown hgrow hb3 HO B2
  go_wp2_with fail
  go_ret
  refine ⟨_, rfl, ?_, B3.out⟩
  rw [HV.out, List.length_append]
  exact own_mono hown3.out hs1
end Go.Proofs.YthkmgfompoebdaaDoor
