/- The reference's Of and Chain. -/
import Derived.Test.YtgjccgdnhccndaaE
namespace Go.Proofs.Ytgjccgdnhccndaa
open Go.RowKit

theorem val_int {k : IntKind} {a b : Int} (h : a = b) : Value.int k a = .int k b := by rw [h]

theorem bft_int (a b x : Nat) : ((b : Int) + ((a : Int) * 16777619 + (x : Int))) % 4294967296 * 128 % 4294967296 + ((b : Int) + ((a : Int) * 16777619 + (x : Int))) % 4294967296 / 33554432 = ((bft b (aft a x) : Nat) : Int) := by
  have h : (b + aft a x) % 4294967296 = (b + (a * 16777619 + x)) % 4294967296 := by unfold aft; omega
  unfold bft rot
  rw [h]
  simp
  omega

def RefRel (w : World) (l : List Nat) (k : Nat) (a b i : Value) (wr : World) : Prop :=
  ∃ m, m + k = l.length ∧ i = .int .i64 (m : Int) ∧ a = .int .u64 (((st (l.take m)).1 : Nat) : Int) ∧ b = .int .u64 (((st (l.take m)).2 : Nat) : Int) ∧ w = wr

theorem st_take {l : List Nat} {m c : Nat} (h : l[m]? = some c) : st (l.take (m + 1)) = (aft (st (l.take m)).1 c, bft (st (l.take m)).2 (aft (st (l.take m)).1 c)) := by
  rw [List.take_add_one, h]
  exact st_snoc _ _

set_option maxRecDepth 100000 in
theorem ref_of {w : World} {A : Option Addr} {c : Nat} {l : List Nat} (hl : Bts w w.heap.size A l) (hs : Sml l) (hc : A = none → c = 0) (hn : l.length ≤ 100000) :
    Calls Try.prog 7 #[.slice A l.length c] w (RetB w (.int .i64 ((dig l : Nat) : Int))) := by
  have HL := Lib.hid hl
  have HS := Lib.hid hs
  have HC := Lib.hid hc
  have HU : Hid (u64 (l.length : Int) = l.length) := u64_nat (by omega)
  have HD : Hid (dig l = asNum (st (l ++ le8 l.length))) := rfl
  have HS2 := Lib.hid (hs.append (le8_sml l.length))
  have hlen : (l ++ le8 l.length).length ≤ 100008 := by rw [List.length_append, le8_length]; omega
  have HL8 := Lib.hid (le8_length l.length)
  clear hl hs hc
  go_enter Try.func7, Try.ntmps7
  go_wp2_with (first
    | (at_builtin; refine wpList_append_bts rfl _ _ rfl w.heap.size _ [] rfl (World.ownsRow_lit (base := w.heap.size) w #[] 0 (Nat.le_refl _) (by unfold maxLen; omega) rfl) w.heap.size A l.length c l rfl rfl (HL.out.below ((Below.refl _ _).alloc (Nat.le_refl _) _)) HC.out (by simp; omega) (by simp) ?_))
  intro v1 w1 h1 h2
  have HR1 := Lib.hid h1
  have HB1 := Lib.hid (((Below.refl w.heap.size w).alloc (Nat.le_refl _) _).trans h2)
  clear h1 h2
  go_wp2_with fail
  refine (eight_any w1 (l.length : Int)).mono ?_
  rintro e w2 ⟨v2, rfl, h1, h2⟩
  rw [HU.out] at h1
  obtain ⟨A2, c2, rfl, hb2, hc2⟩ := h1.bts
  have HB2 := Lib.hid (HB1.out.trans (h2.mono HB1.out.size))
  have HR2 := Lib.hid (HR1.out.below h2)
  have HT2 := Lib.hid hb2
  have HC2 := Lib.hid hc2
  clear h1 h2 hb2 hc2 HR1
  have hle : l.length + (le8 l.length).length ≤ 1000000 := by rw [HL8.out]; omega
  have hle2 := HB2.out.size
  go_wp2_with (first
    | (at_builtin; refine wpList_append_bts rfl _ _ rfl w.heap.size _ l rfl HR2.out w2.heap.size A2 _ c2 (le8 l.length) rfl rfl HT2.out HC2.out hle hle2 ?_))
  intro v3 w3 h1 h2
  obtain ⟨A3, c3, rfl, hb3, -⟩ := h1.bts
  have HB3 := Lib.hid (HB2.out.trans h2)
  have HT3 := Lib.hid hb3
  clear h1 h2 hb3 HR2 HT2 HC2 HB2 HB1 HL HC HS HU HL8
  obtain ⟨q, hq⟩ : ∃ q, q = l ++ le8 l.length := ⟨_, rfl⟩
  rw [← hq] at HD HS2 hlen HT3 ⊢
  clear hq
  go_wp2_with fail
  go_loopg [3, 4, 18] q.length (fun k a b i wr => RefRel w3 q k a b i wr)
  case atStart => exact ⟨0, by simp, rfl, by simp [st_nil], by simp [st_nil], rfl⟩
  case round =>
    obtain ⟨m, hmk, hi, ha, hb, hw⟩ := hrel
    subst hi ha hb hw
    cases gk with
    | zero =>
      have hge : q.length ≤ m := by omega
      have hlt := st_lt q
      rw [List.take_of_length_le hge]
      obtain ⟨⟨a, b⟩, hab⟩ : ∃ p, p = st q := ⟨_, rfl⟩
      rw [← hab] at hlt HD ⊢
      obtain ⟨h1, h2⟩ := hlt
      have HE : Hid (((a : Int) * 4294967296 + (b : Int)) % 4611686018427387904 = ((dig l : Nat) : Int)) := by rw [HD.out]; show _ = ((asNum (a, b) : Nat) : Int); simp [asNum]
      clear hab
      go_wp2_with fail
      go_ret
      exact ⟨ret_int HE.out, HB3.out⟩
    | succ j =>
      have hm : m < q.length := by omega
      obtain ⟨x, hx⟩ : ∃ x, q[m]? = some x := ⟨_, List.getElem?_eq_getElem hm⟩
      obtain ⟨b0, o0, rfl, hlt, hcells⟩ := HT3.out (by omega)
      have cx := hcells m x hx
      have hx8 := HS2.out.at hx
      have hst := st_lt (q.take m)
      have HN := Lib.hid (st_take hx)
      obtain ⟨⟨a, b⟩, hab⟩ : ∃ p, p = st (q.take m) := ⟨_, rfl⟩
      rw [← hab] at hst HN ⊢
      obtain ⟨ha, hb⟩ := hst
      have e1 : Hid (((a : Int) * 16777619 + (x : Int)) % 4294967296 = ((aft a x : Nat) : Int)) := by unfold Hid; simp [aft]
      have e2 := Lib.hid (bft_int a b x)
      have HM := Lib.hid hmk
      clear hmk hx hcells hab
      go_wp2_with fail
      go_roundg j
      case measure => omega
      case rel => exact ⟨m + 1, by have := HM.out; omega, by go_num, by rw [HN.out]; exact val_int e1.out, by rw [HN.out]; exact val_int e2.out, rfl⟩

set_option maxRecDepth 100000 in
theorem ref_chain {w : World} {A : Option Addr} {c : Nat} {l : List Nat} {was : Int} (hl : Bts w w.heap.size A l) (hs : Sml l) (hc : A = none → c = 0) (hn : l.length ≤ 10000) :
    Calls Try.prog 9 #[.int .i64 was, .slice A l.length c] w (RetB w (.int .i64 ((dig (le8 (u64 was) ++ l) : Nat) : Int))) := by
  have HL := Lib.hid hl
  have HC := Lib.hid hc
  have HS2 := Lib.hid ((le8_sml (u64 was)).append hs)
  have HL8 := Lib.hid (le8_length (u64 was))
  clear hl hs hc
  go_enter Try.func9, Try.ntmps9
  go_wp2_with fail
  refine (eight_any w was).mono ?_
  rintro e w2 ⟨v2, rfl, h1, h2⟩
  have HR2 := Lib.hid h1
  have HB2 := Lib.hid h2
  have HT := Lib.hid (HL.out.below h2)
  clear h1 h2 HL
  have hle : (le8 (u64 was)).length + l.length ≤ 1000000 := by rw [HL8.out]; omega
  have hle2 := HB2.out.size
  go_wp2_with (first
    | (at_builtin; refine wpList_append_bts rfl _ _ rfl w.heap.size _ _ rfl HR2.out w.heap.size A l.length c l rfl rfl HT.out HC.out hle hle2 ?_))
  intro v3 w3 h1 h2
  obtain ⟨A3, c3, rfl, hb3, hc3⟩ := h1.bts
  have HB3 := Lib.hid (HB2.out.trans h2)
  have hlen : (le8 (u64 was) ++ l).length ≤ 100000 := by rw [List.length_append, HL8.out]; omega
  obtain ⟨q, hq⟩ : ∃ q, q = le8 (u64 was) ++ l := ⟨_, rfl⟩
  rw [← hq] at hb3 HS2 hlen ⊢
  have H7 := Lib.hid (ref_of (c := c3) hb3 HS2.out hc3 hlen)
  have HQ := Lib.hid hq
  clear h1 h2 hb3 hc3 HR2 HT HC hq hle hle2
  go_wp2_with fail
  refine H7.out.mono ?_
  rintro e w4 ⟨rfl, hb4⟩
  have HB4 := Lib.hid (HB3.out.trans (hb4.mono HB3.out.size))
  clear hb4 H7
  go_wp2_with fail
  go_ret
  exact ⟨ret_int (by rw [HQ.out]), HB4.out⟩
end Go.Proofs.Ytgjccgdnhccndaa
