/- The reference's Seal returns the string of its bytes and their checksum. -/
import Derived.Test.YthkmgfompoebdaaDoorE
import Derived.Laws.BytesArg
namespace Go.Proofs.YthkmgfompoebdaaDoor
open Go.RowKit

/-- Bytes as a string. -/
def str (l : List Nat) : ByteArray := strOfNums (l.map fun c : Nat => (c : Int))

theorem str_append (a b : List Nat) : str a ++ str b = str (a ++ b) := by
  apply ByteArray.ext
  simp [str, strOfNums, ByteArray.data_append]
theorem str_inj {a b : List Nat} (ha : Sml a) (hb : Sml b) (h : str a = str b) : a = b := by
  have h1 := congrArg (fun s : ByteArray => s.data.toList) h
  simp only [str, strOfNums_data, List.map_map] at h1
  have h2 := congrArg (List.map UInt8.toNat) h1
  rw [List.map_map, List.map_map] at h2
  have key : ∀ {l : List Nat}, Sml l → l.map (UInt8.toNat ∘ (fun n => UInt8.ofNat n.toNat) ∘ fun c : Nat => (c : Int)) = l := by
    intro l hl
    conv => rhs; rw [← List.map_id l]
    refine List.map_congr_left fun c hc => ?_
    have := hl c hc
    simp [UInt8.toNat_ofNat', Nat.mod_eq_of_lt this]
  rwa [key ha, key hb] at h2
theorem str_size (l : List Nat) : (str l).size = l.length := by simp [str, strOfNums_size]

theorem conv_str {w : World} {B : Nat} {A : Option Addr} {l : List Nat} (h : Bts w B A l) (c : Nat) : (convert 28 9 (.slice A l.length c)).run Tryd.prog w = .ok (.string (str l)) w := by
  cases A with
  | none =>
    have hl0 : l = [] := by
      cases l with
      | nil => rfl
      | cons y r => obtain ⟨b, o', hA, _⟩ := h (by simp); cases hA
    subst hl0
    exact run_convert_bytes_nil w 28 5 Tryd.underlying28 Tryd.underlying5 _ c 9 Tryd.underlying9
  | some a =>
    rcases Nat.eq_zero_or_pos l.length with hl | hl
    · have hl0 : l = [] := List.eq_nil_of_length_eq_zero hl
      subst hl0
      obtain ⟨b, o, spot⟩ := a
      rw [run_convert_bytes_string w 28 9 5 _ _ _ Tryd.underlying28 Tryd.underlying5 Tryd.underlying9]
      exact run_bytesToString w _ 0 c [] rfl
    · obtain ⟨b, o, hA, _, hc⟩ := h hl
      injection hA with hA
      subst hA
      refine run_convert_bytes_arg w 28 5 Tryd.underlying28 Tryd.underlying5 b o l.length c (l.map fun c : Nat => (c : Int)) (by simp) (fun i hi => ?_) 9 Tryd.underlying9
      rw [hc i _ (List.getElem?_eq_getElem hi)]
      simp [List.getD_eq_getElem?_getD, hi]

theorem add_str {a b : List Nat} (W : World) (ha : a.length ≤ 1000000) (hb : b.length ≤ 1000000) : (Op.stringOp .add (str a) (str b)).run Tryd.prog W = .ok (.string (str a ++ str b)) W :=
  run_string_add_sum W _ _ (by rw [str_size, str_size]; omega)

set_option maxRecDepth 100000 in
theorem ref_seal {w : World} {A : Option Addr} {c : Nat} {l : List Nat} (hl : Bts w w.heap.size A l) (hs : Sml l) (hn : l.length ≤ 10000) :
    Calls Tryd.prog 12 #[.slice A l.length c] w (RetB w (.string (str (sealed l)))) := by
  have H9 := Lib.hid (ref_of (c := c) hl hs (by omega))
  have hv := crc_lt l
  have HV : Hid (str (sealed l) = str l ++ str (be4 (crc l))) := (str_append _ _).symm
  obtain ⟨v, hve⟩ : ∃ v, v = crc l := ⟨_, rfl⟩
  rw [← hve] at H9 hv HV
  have HL := Lib.hid hl
  clear hl hs hve
  go_enter Tryd.func12, Tryd.ntmps12
  go_wp2_with fail
  refine H9.out.mono ?_
  rintro e w1 ⟨rfl, hb1⟩
  have q1 := conv_str (HL.out.below hb1) c
  have q2 : (convert 28 9 (.slice (some ⟨w1.heap.size, 0, none⟩) 4 4)).run Tryd.prog _ = _ := conv_str (be4_laid w1 v) 4
  have q3 : ∀ W : World, (Op.stringOp .add (str l) (str (be4 v))).run Tryd.prog W = .ok (.string (str l ++ str (be4 v))) W := fun W => add_str W (by omega) (by simp [be4])
  have HB := Lib.hid hb1
  clear hb1
  go_wp2_with fail
  go_ret
  exact ⟨by rw [HV.out]; rfl, HB.out.alloc HB.out.size _⟩
end Go.Proofs.YthkmgfompoebdaaDoor
