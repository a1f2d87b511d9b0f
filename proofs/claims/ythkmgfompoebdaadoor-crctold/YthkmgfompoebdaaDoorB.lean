/- (*Sum).Add and (*Sum).Value compute the register of the bytes; on nil they do nothing. -/
import Derived.Test.YthkmgfompoebdaaDoorProg
import Derived.Test.YthkmgfompoebdaaDoorA
import Derived.WalkKit
import Derived.LaidEql
import Derived.Deep.LoopGhost
import Derived.Lib.Hide
import Derived.Laws.BitsAllLaws
namespace Go.Proofs.YthkmgfompoebdaaDoor
open Go.RowKit

/-- A slice's bytes, as they lie below block B. -/
def Bts (w : World) (B : Nat) (A : Option Addr) (l : List Nat) : Prop :=
  0 < l.length → ∃ b o, A = some ⟨b, o, none⟩ ∧ b < B ∧ ∀ k c : Nat, l[k]? = some c → w.cell? ⟨b, o + k, none⟩ = some (.int .u8 (c : Int))

def Sml (l : List Nat) : Prop := ∀ c ∈ l, c < 256

theorem Bts.below {w w' : World} {B : Nat} {A : Option Addr} {l : List Nat} (h : Bts w B A l) (hb : Below B w w') : Bts w' B A l := fun hp => by
  obtain ⟨b, o, hA, hlt, hc⟩ := h hp
  exact ⟨b, o, hA, hlt, fun k c hk => (hb.cell (p := ⟨b, o + k, none⟩) hlt).trans (hc k c hk)⟩
theorem Bts.more {w : World} {B B' : Nat} {A : Option Addr} {l : List Nat} (h : Bts w B A l) (hB : B ≤ B') : Bts w B' A l := fun hp => by
  obtain ⟨b, o, hA, hlt, hc⟩ := h hp
  exact ⟨b, o, hA, by omega, hc⟩

/-- The table lies in block 0. -/
def TabIn (w : World) : Prop := 0 < w.heap.size ∧ ∀ j, j < 16 → w.cell? ⟨0, j, none⟩ = some (.int .u32 (tabAt j : Int))
theorem TabIn.below {w w' : World} {B : Nat} (h : TabIn w) (hB : 0 < B) (hb : Below B w w') : TabIn w' :=
  ⟨Nat.lt_of_lt_of_le h.1 hb.size, fun j hj => (hb.cell (p := ⟨0, j, none⟩) hB).trans (h.2 j hj)⟩

/-- What a Sum holds behind bytes. -/
def sumTo (v : Nat) (l : List Nat) : Nat := 4294967295 - reg (4294967295 - v) l

theorem not32 (v : Nat) (h : v < 4294967296) : bits .xor .u32 IntKind.u32.max (v : Int) = ((4294967295 - v : Nat) : Int) := by
  have e := u32_xor_nat 4294967295 v (by omega) h
  have h2 : 4294967295 ^^^ v = 4294967295 - v := by
    have := BitVec.toNat_not (x := BitVec.ofNat 32 v)
    rw [← BitVec.allOnes_xor, BitVec.toNat_xor, BitVec.toNat_ofNat, BitVec.toNat_allOnes, Nat.mod_eq_of_lt (by omega)] at this
    simpa using this
  rw [h2] at e
  exact e

theorem and15 (r : Nat) (h : r < 4294967296) : bits .and .u32 (r : Int) 15 = ((r % 16 : Nat) : Int) := by
  have e := u32_and_nat r 15 h (by omega)
  rw [Nat.and_two_pow_sub_one_eq_mod r 4] at e
  exact e

theorem xor32 (a b : Nat) (ha : a < 4294967296) (hb : b < 4294967296) : bits .xor .u32 (a : Int) (b : Int) = ((a ^^^ b : Nat) : Int) := u32_xor_nat a b ha hb

theorem nil_add (A : Option Addr) (n c : Nat) (w : World) : Calls Tryd.prog 7 #[.pointer none, .slice A n c] w fun e w' => e = .returned (.tuple #[]) ∧ w = w' := by
  go_enter Tryd.func7, Tryd.ntmps7
  go_wp2_with fail
  refine bodyPost_ret (results_none rfl _ _ _) rfl ?_
  exact ⟨rfl, rfl⟩

theorem nil_value (w : World) : Calls Tryd.prog 8 #[.pointer none] w fun e w' => e = .returned (.int .u32 0) ∧ w = w' := by
  go_enter Tryd.func8, Tryd.ntmps8
  go_wp2_with fail
  go_ret
  exact ⟨rfl, rfl⟩

theorem value_any {w : World} {g : Nat} {v : Nat} (hc : w.cell? ⟨g, 0, none⟩ = some (.int .u32 (v : Int))) : Calls Tryd.prog 8 #[.pointer (some ⟨g, 0, none⟩)] w fun e w' => e = .returned (.int .u32 (v : Int)) ∧ w = w' := by
  go_enter Tryd.func8, Tryd.ntmps8
  go_wp2_with fail
  go_ret
  exact ⟨rfl, rfl⟩

def AddRel (w : World) (r0 : Nat) (l : List Nat) (k : Nat) (r i : Value) (wr : World) : Prop :=
  ∃ m, m + k = l.length ∧ i = .int .i64 (m : Int) ∧ r = .int .u32 ((reg r0 (l.take m) : Nat) : Int) ∧ w = wr

theorem reg_snoc {r0 m c : Nat} {l : List Nat} (h : l[m]? = some c) : reg r0 (l.take (m + 1)) = byt (reg r0 (l.take m)) c := by
  rw [List.take_add_one, h, reg_append]
  rfl

theorem Sml.take {l : List Nat} (h : Sml l) (m : Nat) : Sml (l.take m) := fun c hc => h c (List.mem_of_mem_take hc)
theorem Sml.at {l : List Nat} (h : Sml l) {m c : Nat} (hm : l[m]? = some c) : c < 256 := h c (List.mem_of_getElem? hm)

/-- The two half steps of a byte, in the walk's own words. -/
theorem nibs_laid {w : World} {r x : Nat} (ht : TabIn w) (hr : r < 4294967296) (hx : x < 256) :
    ∃ r2, r2 = byt r x ∧ ∃ r1 j1 t1 j2 t2 : Nat, bits .xor .u32 (r : Int) (x : Int) = (r1 : Int) ∧ bits .and .u32 (r1 : Int) 15 = (j1 : Int) ∧
      (∃ q1 : Nat, bits .xor .u32 ((r1 : Int) / 16) (t1 : Int) = (q1 : Int) ∧ bits .and .u32 (q1 : Int) 15 = (j2 : Int) ∧ bits .xor .u32 ((q1 : Int) / 16) (t2 : Int) = (r2 : Int)) ∧
      j1 < 16 ∧ j2 < 16 ∧ w.cell? ⟨0, j1, none⟩ = some (.int .u32 (t1 : Int)) ∧ w.cell? ⟨0, j2, none⟩ = some (.int .u32 (t2 : Int)) := by
  have h1 : r ^^^ x < 4294967296 := Nat.xor_lt_two_pow (n := 32) hr (by omega)
  have h2 : stps 4 (r ^^^ x) < 4294967296 := stps_lt 4 h1
  refine ⟨_, rfl, r ^^^ x, (r ^^^ x) % 16, tabAt ((r ^^^ x) % 16), stps 4 (r ^^^ x) % 16, tabAt (stps 4 (r ^^^ x) % 16), ?_, and15 _ h1, ⟨stps 4 (r ^^^ x), ?_, and15 _ h2, ?_⟩, by omega, by omega, ht.2 _ (by omega), ht.2 _ (by omega)⟩
  · exact xor32 r x hr (by omega)
  · have := xor32 ((r ^^^ x) / 16) (tabAt ((r ^^^ x) % 16)) (by omega) (tabAt_lt _)
    rw [nib_stps]
    simpa using this
  · have := xor32 (stps 4 (r ^^^ x) / 16) (tabAt (stps 4 (r ^^^ x) % 16)) (by omega) (tabAt_lt _)
    rw [byt_nibs, nib_stps (stps 4 (r ^^^ x))]
    simpa using this

set_option maxRecDepth 100000 in
theorem add_any {w : World} {A : Option Addr} {g v c : Nat} {l : List Nat} (ht : TabIn w) (hl : Bts w w.heap.size A l) (hs : Sml l) (hn : l.length ≤ 100000) (hv : v < 4294967296)
    (hc : w.cell? ⟨g, 0, none⟩ = some (.int .u32 (v : Int))) (hf : w.frozen? ⟨g, 0, none⟩ = false) :
    Calls Tryd.prog 7 #[.pointer (some ⟨g, 0, none⟩), .slice A l.length c] w fun e w' => e = .returned (.tuple #[]) ∧ w.setCell ⟨g, 0, none⟩ (.int .u32 ((sumTo v l : Nat) : Int)) = w' := by
  have HT := Lib.hid ht
  have HL := Lib.hid hl
  have HS := Lib.hid hs
  have e0 := not32 v hv
  have hr0 : 4294967295 - v < 4294967296 := by omega
  have E : Hid (∀ l, sumTo v l = 4294967295 - reg (4294967295 - v) l) := fun _ => rfl
  obtain ⟨r0, hr⟩ : ∃ r0, r0 = 4294967295 - v := ⟨_, rfl⟩
  rw [← hr] at e0 hr0 E
  clear ht hl hs hr
  go_enter Tryd.func7, Tryd.ntmps7
  go_wp2_with fail
  go_loopg [4, 16] l.length (fun k r i wr => AddRel w r0 l k r i wr)
  case atStart => exact ⟨0, by simp, rfl, rfl, rfl⟩
  case round =>
    obtain ⟨m, hmk, hi, hr, hw⟩ := hrel
    subst hi hr hw
    cases gk with
    | zero =>
      have hge : l.length ≤ m := by omega
      have e1 := not32 (reg r0 (l.take m)) (reg_lt hr0 (HS.out.take m))
      have E2 := E.out l
      have E3 : sumTo v l = 4294967295 - reg r0 (l.take m) := by rw [List.take_of_length_le hge]; exact E2
      have H2 := Lib.hid E3
      clear E2 E3
      go_wp2_with fail
      go_end0
      exact ⟨rfl, by rw [H2.out]⟩
    | succ j =>
      have hm : m < l.length := by omega
      obtain ⟨x, hx⟩ : ∃ x, l[m]? = some x := ⟨_, List.getElem?_eq_getElem hm⟩
      obtain ⟨b, o, rfl, hlt, hcells⟩ := HL.out (by omega)
      have cx := hcells m x hx
      have hx8 := HS.out.at hx
      have hrl : reg r0 (l.take m) < 4294967296 := reg_lt hr0 (HS.out.take m)
      obtain ⟨r2, hr2, r1, j1, t1, j2, t2, f1, f2, ⟨q1, f3, f4, f5⟩, h1, h2, c1, c2⟩ := nibs_laid HT.out hrl hx8
      have RN : Hid (reg r0 (l.take (m + 1)) = r2) := by rw [reg_snoc hx]; exact hr2.symm
      have HM := Lib.hid hmk
      clear hr2 hmk hx hcells
      go_wp2_with fail
      go_roundg j
      case measure => omega
      case rel => exact ⟨m + 1, by have := HM.out; omega, by go_num, by rw [RN.out], rfl⟩
end Go.Proofs.YthkmgfompoebdaaDoor
