/- The reference's Parse. -/
import Derived.Test.YtoegmajkfaokdaaDoorPs
namespace Go.Proofs.YtoegmajkfaokdaaDoor
open Go.RowKit

theorem str_index {s : List UInt8} {S : ByteArray} {m : Nat} {x : UInt8} (hS : S = str s) (h : s[m]? = some x) (W : World) : (Instr.index 9 (.string S) (.int .i64 (m : Int))).run Tryd.prog W = .ok (.int .u8 (x.toNat : Int)) W := by
  subst hS
  obtain ⟨hm, hx⟩ := List.getElem?_eq_some_iff.1 h
  rw [run_index_string W 9 _ .i64 _ Tryd.underlying9, dif_pos ⟨by omega, by rw [str_size]; omega⟩]
  simp only [Int.toNat_natCast]
  congr 3
  rw [← hx]
  rfl
theorem drop_at {s : List UInt8} {m : Nat} {x : UInt8} (h : s[m]? = some x) : s.drop m = x :: s.drop (m + 1) := by
  obtain ⟨h1, h2⟩ := List.getElem?_eq_some_iff.1 h
  rw [← h2]
  exact List.drop_eq_getElem_cons h1

/-- How the text parts ahead of place m: parts done, the part under way. -/
def Parted (s : List UInt8) (m : Nat) (ps : List (List UInt8)) (cur : List UInt8) : Prop :=
  46 ∉ cur ∧ (m ≤ s.length → split s = ps ++ split (cur ++ s.drop m)) ∧ (s.length < m → split s = ps)
theorem parted_end {s : List UInt8} {ps : List (List UInt8)} {cur : List UInt8} (h : Parted s s.length ps cur) : Parted s (s.length + 1) (ps ++ [cur]) [] := by
  refine ⟨by simp, fun h => by omega, fun _ => ?_⟩
  have := h.2.1 (Nat.le_refl _)
  rwa [List.drop_length, List.append_nil, split_none cur h.1] at this
theorem parted_dot {s : List UInt8} {m : Nat} {ps : List (List UInt8)} {cur : List UInt8} (h : Parted s m ps cur) (hx : s[m]? = some 46) : Parted s (m + 1) (ps ++ [cur]) [] := by
  have hm := (List.getElem?_eq_some_iff.1 hx).1
  refine ⟨by simp, fun _ => ?_, fun h => by omega⟩
  have := h.2.1 (by omega)
  rw [drop_at hx, split_some cur _ h.1] at this
  rw [this]
  simp
theorem parted_more {s : List UInt8} {m : Nat} {x : UInt8} {ps : List (List UInt8)} {cur : List UInt8} (h : Parted s m ps cur) (hx : s[m]? = some x) (h46 : x ≠ 46) : Parted s (m + 1) ps (cur ++ [x]) := by
  have hm := (List.getElem?_eq_some_iff.1 hx).1
  refine ⟨by simp; exact ⟨h.1, fun e => h46 e.symm⟩, fun _ => ?_, fun h => by omega⟩
  have := h.2.1 (by omega)
  rw [drop_at hx] at this
  rw [this]
  simp
theorem decFrom_snoc {cur : List UInt8} {u y : Nat} {x : UInt8} (h : Lib.decFrom 0 cur = some u) (hx : x.toNat = 48 + y) (hy : y < 10) : Lib.decFrom 0 (cur ++ [x]) = some (u * 10 + y) := by
  rw [decFrom_append cur 0 u [x] h]
  have e : x = UInt8.ofNat (48 + y) := by
    apply UInt8.toNat_inj.1
    rw [dig_of hy, hx]
  rw [e]
  exact decFrom_one hy u

def RqRel (w : World) (s : List UInt8) (k : Nat) (v n d i : Value) (wr : World) : Prop :=
  ∃ m ps zs cur, ∃ u : Nat, m + k = s.length + 1 ∧ i = .int .i64 (m : Int) ∧ n = .int .i64 (u : Int) ∧ d = .int .i64 (cur.length : Int) ∧ Parted s m ps cur ∧ Each decOf ps zs ∧ WideZ zs ∧ zs.length ≤ m ∧ Lib.decFrom 0 cur = some u ∧ u < 10 ^ cur.length ∧ cur.length ≤ 7 ∧
    ZRow wr w.heap.size v zs ∧ Below w.heap.size w wr

set_option maxRecDepth 100000 in
set_option maxHeartbeats 4000000 in
theorem refParse_any {w : World} {s : List UInt8} (hn : s.length ≤ 1000) : Calls Tryd.prog 10 #[.string (str s)] w (RetParse w s) := by
  by_cases ht : s = []
  · subst ht
    have hq : (str []).toList.isEmpty = true := by rw [ByteArray.toList_eq, str_list]; rfl
    obtain ⟨S, hS⟩ : ∃ S, S = str [] := ⟨_, rfl⟩
    rw [← hS] at hq ⊢
    clear hS
    go_enter Tryd.func10, Tryd.ntmps10
    go_wp2_with fail
    go_ret2
    exact ⟨Below.refl _ _, .inl ⟨[], _, isPath_nil, rfl, World.ownsRow_nil _ _ _ _⟩⟩
  · have hq : (str s).toList.isEmpty = false := by rw [ByteArray.toList_eq, str_list]; simpa using ht
    have HT := Lib.hid ht
    obtain ⟨S, hS⟩ : ∃ S, S = str s := ⟨_, rfl⟩
    have hsz : S.size = s.length := by rw [hS]; exact str_size s
    rw [← hS] at hq ⊢
    have HS := Lib.hid hS
    clear hS ht
    go_enter Tryd.func10, Tryd.ntmps10
    go_wp2_with fail
    go_loopg [4, 5, 6, 7] (s.length + 1) (fun k v n d i wr => RqRel w s k v n d i wr)
    case atStart => exact ⟨0, [], [], [], 0, by simp, rfl, rfl, rfl, ⟨by simp, fun _ => by simp, fun h => by omega⟩, each_nil _, fun _ h => by simp at h, by simp, rfl, by simp, by simp, World.ownsRow_nil _ _ _ _, Below.refl _ _⟩
    case round =>
      obtain ⟨m, ps, zs, cur, u, hmk, hi, hnn, hdd, hpt, hea, hwd, hzl, hdf, hul, hcl, hrow, hb⟩ := hrel
      subst hi hnn hdd
      have HPT := Lib.hid hpt
      have HEA := Lib.hid hea
      have HWD := Lib.hid hwd
      have HDF := Lib.hid hdf
      have HR := Lib.hid hrow
      have HB := Lib.hid hb
      have HM := Lib.hid hmk
      have hu7 : u < 10000000 := Nat.lt_of_lt_of_le hul (Nat.pow_le_pow_right (by omega) hcl)
      have HDO : Hid (decOf cur = some (u : Int)) := by unfold Hid decOf; rw [hdf]; rfl
      have HUL := Lib.hid hul
      have HWN : Hid (WideZ (zs ++ [(u : Int)])) := fun z hz => by
        rcases List.mem_append.1 hz with h | h
        · exact hwd z h
        · simp at h; omega
      clear hpt hea hwd hdf hul
      cases gk with
      | zero =>
        have hml : m = s.length + 1 := by omega
        have hexit : ¬ (m : Int) ≤ (S.size : Int) := by omega
        have HE2 : Hid (Each decOf (split s) zs) := by
          have := HPT.out.2.2 (by omega)
          rw [Hid, this]
          exact HEA.out
        obtain ⟨A, c, hvs, hz⟩ := hrow.zs
        subst hvs
        have H12 := Lib.hid (refRight_any (c := c) hz (by omega))
        by_cases hok : PathOk zs
        · have H14 := Lib.hid (refText_any (c := c) hz HWD.out (by have := hok.1; omega))
          rw [decide_eq_true hok] at H12
          by_cases htx : zText zs = s
          · have hq2 : ((str (zText zs)).toList == S.toList) = true := by rw [HS.out]; exact str_same htx
            have HP : Hid (IsPath s zs) := ⟨hok, htx.symm⟩
            obtain ⟨T, hT⟩ : ∃ T, T = str (zText zs) := ⟨_, rfl⟩
            rw [← hT] at hq2 H14
            clear hT htx hok hz hrow hb hmk hml hsz
            go_wp2_with (first
              | (go_at_call 12; refine H12.out.mono ?_; rintro e w' ⟨rfl, rfl⟩)
              | (go_at_call 14; refine H14.out.mono ?_; rintro e w' ⟨rfl, rfl⟩))
            go_ret2
            exact ⟨HB.out, .inl ⟨zs, _, HP.out, rfl, HR.out⟩⟩
          · have hq2 : ((str (zText zs)).toList == S.toList) = false := by rw [HS.out]; exact str_differs htx
            have HP : Hid (∀ us, ¬ IsPath s us) := parse_no decOf_right HT.out HE2.out (fun h => htx h.2)
            obtain ⟨T, hT⟩ : ∃ T, T = str (zText zs) := ⟨_, rfl⟩
            rw [← hT] at hq2 H14
            clear hT htx hok hz hrow hb hmk hml hsz
            go_wp2_with (first
              | (go_at_call 12; refine H12.out.mono ?_; rintro e w' ⟨rfl, rfl⟩)
              | (go_at_call 14; refine H14.out.mono ?_; rintro e w' ⟨rfl, rfl⟩))
            go_ret2
            exact ⟨HB.out, .inr ⟨HP.out, rfl⟩⟩
        · rw [decide_eq_false hok] at H12
          have HP : Hid (∀ us, ¬ IsPath s us) := parse_no decOf_right HT.out HE2.out (fun h => hok h.1)
          clear hok hz hrow hb hmk hml hsz
          go_wp2_with (first
            | (go_at_call 12; refine H12.out.mono ?_; rintro e w' ⟨rfl, rfl⟩))
          go_ret2
          exact ⟨HB.out, .inr ⟨HP.out, rfl⟩⟩
      | succ j =>
        have hin : (m : Int) ≤ (S.size : Int) := by omega
        have hmb : m ≤ 1000 := by omega
        have hle : zs.length + 1 ≤ 1000001 := by omega
        have hsw := hb.size
        have hbase : w.heap.size ≤ (wr.alloc (.cells #[.int .i64 (u : Int)] 3)).heap.size := by simp; omega
        by_cases hend : m = s.length
        · have q1 : ((m : Int) == (S.size : Int)) = true := by rw [hsz]; simp; omega
          have HP2 : Hid (Parted s (m + 1) (ps ++ [cur]) []) := by rw [Hid, hend]; exact parted_end (by rw [← hend]; exact HPT.out)
          clear hend hrow hmk hb hsz
          go_wp2_with (first
            | (at_builtin; refine wpList_append_z rfl _ _ rfl w.heap.size _ zs rfl (World.ownsRow.alloc HR.out _) ⟨wr.heap.size, 0, none⟩ (u : Int) rfl (cell_one_new _ _ _) hle hbase ?_))
          intro v' w4 hown hb4
          have R4 := Lib.hid hown
          have B4 : Hid (Below w.heap.size w w4) := (HB.out.alloc hsw _).trans hb4
          clear hown hb4
          go_wp2_with fail
          go_roundg j
          case measure => omega
          case rel => exact ⟨m + 1, _, _, [], 0, by have := HM.out; omega, by go_num, rfl, rfl, HP2.out, HEA.out.snoc HDO.out, HWN.out, by simp; omega, rfl, by simp, by simp, R4.out, B4.out⟩
        · have q1 : ((m : Int) == (S.size : Int)) = false := by simp; omega
          obtain ⟨x, hx⟩ : ∃ x, s[m]? = some x := ⟨_, List.getElem?_eq_getElem (by omega)⟩
          have ix := str_index HS.out hx
          by_cases h46 : x = 46
          · subst h46
            have HP2 := Lib.hid (parted_dot HPT.out hx)
            have ix2 : ∀ W : World, (Instr.index 9 (.string S) (.int .i64 (m : Int))).run Tryd.prog W = .ok (.int .u8 46) W := ix
            clear hend hrow hmk hb hsz hx ix
            go_wp2_with (first
              | (at_builtin; refine wpList_append_z rfl _ _ rfl w.heap.size _ zs rfl (World.ownsRow.alloc HR.out _) ⟨wr.heap.size, 0, none⟩ (u : Int) rfl (cell_one_new _ _ _) hle hbase ?_))
            intro v' w4 hown hb4
            have R4 := Lib.hid hown
            have B4 : Hid (Below w.heap.size w w4) := (HB.out.alloc hsw _).trans hb4
            clear hown hb4
            go_wp2_with fail
            go_roundg j
            case measure => omega
            case rel => exact ⟨m + 1, _, _, [], 0, by have := HM.out; omega, by go_num, rfl, rfl, HP2.out, HEA.out.snoc HDO.out, HWN.out, by simp; omega, rfl, by simp, by simp, R4.out, B4.out⟩
          · obtain ⟨X, hX⟩ : ∃ X, X = x.toNat := ⟨_, rfl⟩
            have hX2 : X < 256 := by rw [hX]; exact x.toNat_lt
            have q2 : ((X : Int) == 46) = false := by
              rw [beq_eq_false_iff_ne]
              intro e
              have e2 : X = 46 := by omega
              exact h46 (UInt8.toNat_inj.1 (by rw [← hX, e2]; rfl))
            rw [← hX] at ix
            have HSP : Hid (split s = ps ++ split (cur ++ x :: s.drop (m + 1))) := by
              have := HPT.out.2.1 (by omega)
              rwa [drop_at hx] at this
            have HC46 := Lib.hid HPT.out.1
            by_cases hdig : isDig x ∧ cur.length < 7
            · obtain ⟨⟨hd1, hd2⟩, hc7⟩ := hdig
              rw [← hX] at hd1 hd2
              obtain ⟨y, hy⟩ : ∃ y, X = 48 + y := ⟨X - 48, by omega⟩
              have hy10 : y < 10 := by omega
              have HD2 : Hid (Lib.decFrom 0 (cur ++ [x]) = some (u * 10 + y)) := decFrom_snoc HDF.out (by omega) hy10
              have HP2 := Lib.hid (parted_more HPT.out hx h46)
              have hpow : 10 ^ (cur ++ [x]).length = 10 ^ cur.length * 10 := by rw [List.length_append]; exact Nat.pow_succ _ _
              have HU2 : Hid (u * 10 + y < 10 ^ (cur ++ [x]).length) := by rw [Hid, hpow]; have := HUL.out; omega
              have hl2 : (cur ++ [x]).length = cur.length + 1 := by simp
              have HL2 := Lib.hid hl2
              subst hy
              have q3 : ¬ ((48 + y : Nat) : Int) < 48 := by omega
              have q4 : ¬ (57 : Int) < ((48 + y : Nat) : Int) := by omega
              have q5 : ¬ (7 : Int) < (cur.length : Int) + 1 := by omega
              have hmul : 10 * (u : Int) + (y : Int) = ((u * 10 + y : Nat) : Int) := by omega
              clear hend hrow hmk hb hsz hx hX h46 hd1 hd2 hpow hl2 hX2
              go_wp2_with fail
              go_roundg j
              case measure => omega
              case rel => exact ⟨m + 1, ps, zs, cur ++ [x], u * 10 + y, by have := HM.out; omega, by go_num, by congr 1; omega, by rw [HL2.out]; go_num, HP2.out, HEA.out, HWD.out, by omega, HD2.out, HU2.out, by rw [HL2.out]; omega, HR.out, HB.out⟩
            · have HST : Hid (∀ us, ¬ IsPath s us) := ref_stop HT.out HSP.out HC46.out h46 (by
                by_cases h : isDig x
                · exact .inr (by
                    have : ¬ cur.length < 7 := fun h2 => hdig ⟨h, h2⟩
                    omega)
                · exact .inl h)
              by_cases q3 : (X : Int) < 48
              · clear hend hrow hmk hb hsz hx hX h46 hdig
                go_wp2_with fail
                go_ret2
                exact ⟨HB.out, .inr ⟨HST.out, rfl⟩⟩
              · by_cases q4 : (57 : Int) < (X : Int)
                · clear hend hrow hmk hb hsz hx hX h46 hdig
                  go_wp2_with fail
                  go_ret2
                  exact ⟨HB.out, .inr ⟨HST.out, rfl⟩⟩
                · have q5 : (7 : Int) < (cur.length : Int) + 1 := by
                    have : ¬ cur.length < 7 := fun h2 => hdig ⟨⟨by rw [← hX]; omega, by rw [← hX]; omega⟩, h2⟩
                    omega
                  clear hend hrow hmk hb hsz hx hX h46 hdig
                  go_wp2_with fail
                  go_ret2
                  exact ⟨HB.out, .inr ⟨HST.out, rfl⟩⟩
end Go.Proofs.YtoegmajkfaokdaaDoor
