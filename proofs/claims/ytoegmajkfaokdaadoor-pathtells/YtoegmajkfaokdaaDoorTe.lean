/- fault.New makes an error that is not nil; tape.number reads the number that bytes begin with. -/
import Derived.Test.YtoegmajkfaokdaaDoorTc
import Derived.IntWalk
namespace Go.Proofs.YtoegmajkfaokdaaDoor.Tp
open Go.RowKit

set_option maxRecDepth 100000 in
theorem new_new (s : ByteArray) (n : Int) (w : World) (hn : (n == 0) = false) :
    Calls Tryd.prog 61 #[.string s, .int .i64 n] w fun e w' => e = .returned (.iface 116 (.pointer (some ⟨w.heap.size, 0, none⟩))) ∧ w.alloc (.cells #[.string s, .int .i64 n, .nilIface] 118) = w' := by
  have H : Hid (Calls Tryd.prog 74 #[.string s, .int .i64 n, .nilIface] w fun e w' => e = .returned (.iface 116 (.pointer (some ⟨w.heap.size, 0, none⟩))) ∧ w.alloc (.cells #[.string s, .int .i64 n, .nilIface] 118) = w') := by
    go_enter Tryd.func74, Tryd.ntmps74
    go_wp2
    go_ret
    exact ⟨rfl, rfl⟩
  go_enter Tryd.func61, Tryd.ntmps61
  go_wp2_with (go_at_call 74; refine H.out.mono ?_; rintro e w' ⟨rfl, rfl⟩)
  go_ret
  exact ⟨rfl, rfl⟩

set_option maxRecDepth 100000 in
theorem i64_or_nat (a b : Nat) (ha : a < 9223372036854775808) (hb : b < 9223372036854775808) : bits .or .i64 (a : Int) (b : Int) = ((a ||| b : Nat) : Int) := by
  have hx : a ||| b < 2 ^ 63 := Nat.or_lt_two_pow (by omega) (by omega)
  show IntKind.i64.wrap ((BitVec.ofInt 64 (a : Int) ||| BitVec.ofInt 64 (b : Int)).toNat : Int) = _
  rw [BitVec.toNat_or, ofInt_u64 a (by omega), ofInt_u64 b (by omega)]
  exact IntWalk.i64_in _ (by omega)

set_option maxRecDepth 100000 in
theorem shl_or {x m v : Nat} (hm : m ≤ 8) (hv : v < 128 ^ m) :
    ∃ t v2 : Nat, wrap64 ((x : Int) % 128 * 2 ^ (m * 7)) = (t : Int) ∧ bits .or .i64 (v : Int) (t : Int) = (v2 : Int) ∧ v2 = v + (x % 128) * 128 ^ m ∧ v2 < 9223372036854775808 := by
  have hp : (128 : Nat) ^ m ≤ 128 ^ 8 := Nat.pow_le_pow_right (by omega) hm
  have h7 : (2 : Nat) ^ (m * 7) = 128 ^ m := by rw [Nat.mul_comm, Nat.pow_mul]
  have h7i : (2 : Int) ^ (m * 7) = ((128 ^ m : Nat) : Int) := by rw [← h7]; simp
  obtain ⟨P, hP⟩ : ∃ P : Nat, P = 128 ^ m := ⟨_, rfl⟩
  obtain ⟨y, hy⟩ : ∃ y : Nat, y = x % 128 := ⟨_, rfl⟩
  have hy2 : y ≤ 127 := by omega
  rw [← hP] at hp hv h7 h7i
  have hle : y * P ≤ 127 * P := Nat.mul_le_mul_right _ hy2
  have hor : v ||| y * P = v + y * P := by
    have h := Nat.two_pow_add_eq_or_of_lt (i := m * 7) (b := v) (by omega) y
    rw [h7, Nat.mul_comm P y] at h
    rw [Nat.or_comm, ← h, Nat.add_comm]
  refine ⟨y * P, v + y * P, ?_, ?_, by rw [hy, hP], by omega⟩
  · rw [h7i, show (x : Int) % 128 = (y : Int) by omega, ← Int.natCast_mul]
    exact IntWalk.wrap64_in _ (by omega)
  · rw [i64_or_nat v (y * P) (by omega) (by omega), hor]

def NumPost (l : List Nat) (most : Int) (w : World) (e : Ending) (w' : World) : Prop :=
  w = w' ∧ ((∃ n r, l = enc n ++ r ∧ (n : Int) ≤ most ∧ n < 9223372036854775808 ∧ e = .returned (.tuple #[.int .i64 (n : Int), .int .i64 ((enc n).length : Int), .int .i64 0])) ∨
    (NoNum l most ∧ ∃ q : Int, (q == 0) = false ∧ e = .returned (.tuple #[.int .i64 0, .int .i64 0, .int .i64 q])))

def ReadRel (w : World) (l : List Nat) (gk : Nat) (n i : Value) (wr : World) : Prop :=
  ∃ m : Nat, m + gk = l.length ∧ m ≤ 9 ∧ Big (l.take m) ∧ n = .int .i64 ((val (l.take m) : Nat) : Int) ∧ i = .int .i64 (m : Int) ∧ w = wr

set_option maxRecDepth 100000 in
theorem number_any {w : World} {A : Option Addr} {c : Nat} {l : List Nat} {most : Int} (hl : Bts w w.heap.size A l) (hs : Sml l) (hn : l.length ≤ 900000) :
    Calls Tryd.prog 60 #[.slice A l.length c, .int .i64 most] w (NumPost l most w) := by
  have HL := Lib.hid hl
  have HS := Lib.hid hs
  clear hl hs
  go_enter Tryd.func60, Tryd.ntmps60
  go_wp2_with fail
  go_loopg [4, 11] l.length (fun gk n i wr => ReadRel w l gk n i wr)
  case atStart => exact ⟨0, by simp, by omega, (fun c hc => by cases hc), rfl, rfl, rfl⟩
  case round =>
    obtain ⟨m, hmk, hm9, hb, hi, hr, hw⟩ := hrel
    subst hi hr hw
    have HB := Lib.hid hb
    clear hb
    cases gk with
    | zero =>
      have hge : l.length ≤ m := by omega
      go_wp2_with fail
      go_ret3
      refine ⟨rfl, .inr ⟨no_end ?_, 11, rfl, rfl⟩⟩
      have := HB.out
      rwa [List.take_of_length_le hge] at this
    | succ j =>
      have hm : m < l.length := by omega
      obtain ⟨x, hx⟩ : ∃ x, l[m]? = some x := ⟨_, List.getElem?_eq_getElem hm⟩
      obtain ⟨b, o, rfl, hlt, hcells⟩ := HL.out (by omega)
      have cx := hcells m x hx
      have hx8 := HS.out x (List.mem_of_getElem? hx)
      have HX := Lib.hid hx
      have HM := Lib.hid hmk
      clear hx hmk hcells
      by_cases h9 : m = 9
      · subst h9
        go_wp2_with fail
        go_ret3
        exact ⟨rfl, .inr ⟨no_nine HB.out, 10, rfl, rfl⟩⟩
      · have h9' : ¬ ((m : Int) = 9) := by omega
        have hvl := val_take_lt l m
        obtain ⟨v, hv⟩ : ∃ v, v = val (l.take m) := ⟨_, rfl⟩
        rw [← hv] at hvl ⊢
        obtain ⟨t, v2, e1, e2, h1, h2⟩ := shl_or (x := x) (by omega) hvl
        have HV := Lib.hid hv
        have H1 := Lib.hid h1
        clear hv h1 hvl
        by_cases hbig : 128 ≤ x
        · go_wp2_with fail
          go_roundg j
          case measure => omega
          case rel =>
            refine ⟨m + 1, by have := HM.out; omega, by omega, HB.out.snoc HX.out hbig hx8, ?_, by go_num, rfl⟩
            rw [val_take HX.out, ← HV.out, ← H1.out]
        · have hx128 : x < 128 := by omega
          have hmod : x % 128 = x := Nat.mod_eq_of_lt hx128
          by_cases h0 : x = 0 ∧ 0 < m
          · obtain ⟨hx0, hm0⟩ := h0
            subst hx0
            go_wp2_with fail
            go_ret3
            exact ⟨rfl, .inr ⟨no_zero HB.out HX.out hm0, 10, rfl, rfl⟩⟩
          · have h0' : x = 0 → m = 0 := fun h => by
              have : ¬ 0 < m := fun h2 => h0 ⟨h, h2⟩
              omega
            have hE := num_hit HB.out HX.out hx128 h0'
            have hLn := hit_length HB.out HX.out hx128 h0'
            have H3 := H1.out
            rw [hmod] at H3
            rw [← HV.out, ← H3] at hE hLn
            have HE := Lib.hid hE
            have HLn := Lib.hid hLn
            clear hE hLn H3 hmod
            have hd : ¬ (x = 0) ∨ (x = 0 ∧ m = 0) := by
              by_cases h : x = 0
              · exact .inr ⟨h, h0' h⟩
              · exact .inl h
            by_cases hlong : most < (v2 : Int)
            · rcases hd with hd | hd
              · go_wp2_with fail
                go_ret3
                exact ⟨rfl, .inr ⟨no_long HE.out hlong, 13, rfl, rfl⟩⟩
              · obtain ⟨hx0, hm0⟩ := hd
                subst hx0 hm0
                have hv0 : v = 0 := HV.out
                subst hv0
                have h20 : v2 = 0 := H1.out
                subst h20
                have e6 : bits .or .i64 0 0 = 0 := by decide
                have cx0 : w.cell? ⟨b, o, none⟩ = some (.int .u8 0) := cx
                clear e1 e2 cx
                go_wp2_with fail
                go_ret3
                exact ⟨rfl, .inr ⟨no_long HE.out hlong, 13, rfl, rfl⟩⟩
            · rcases hd with hd | hd
              · go_wp2_with fail
                go_ret3
                exact ⟨rfl, .inl ⟨v2, _, HE.out, by omega, h2, by rw [HLn.out]; rfl⟩⟩
              · obtain ⟨hx0, hm0⟩ := hd
                subst hx0 hm0
                have hv0 : v = 0 := HV.out
                subst hv0
                have h20 : v2 = 0 := H1.out
                subst h20
                have e6 : bits .or .i64 0 0 = 0 := by decide
                have cx0 : w.cell? ⟨b, o, none⟩ = some (.int .u8 0) := cx
                clear e1 e2 cx
                go_wp2_with fail
                go_ret3
                exact ⟨rfl, .inl ⟨0, _, HE.out, by omega, h2, by rw [HLn.out]; rfl⟩⟩
end Go.Proofs.YtoegmajkfaokdaaDoor.Tp
