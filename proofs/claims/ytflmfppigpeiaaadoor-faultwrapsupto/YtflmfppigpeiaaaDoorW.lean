/- FaultWraps answers true, wherever errors.errorType holds the type of error and whatever the library's table of powers holds; only new memory is written. -/
import Derived.Test.YtflmfppigpeiaaaDoorV
import Derived.Test.YtflmfppigpeiaaaDoorN
import Derived.Deep.RegionHeld3
namespace Go.Proofs.YtflmfppigpeiaaaDoor
open Go.RowKit

theorem joinTail_len {sep : List UInt8} {M : Nat} : ∀ {r : List (List UInt8)}, (∀ x ∈ r, x.length ≤ M) → (Lib.joinTail sep r).length ≤ r.length * (sep.length + M)
  | [], _ => by simp [Lib.joinTail]
  | x :: r, h => by
    have h1 := h x (by simp)
    have h2 := joinTail_len (sep := sep) (r := r) (fun y hy => h y (by simp [hy]))
    simp only [Lib.joinTail, List.map_cons, List.flatten_cons, List.length_append, List.length_cons, Nat.succ_mul] at h2 ⊢
    omega
theorem join_len {sep : List UInt8} {M : Nat} {l : List (List UInt8)} (h : ∀ x ∈ l, x.length ≤ M) : (Lib.join l sep).length ≤ l.length * (sep.length + M) := by
  cases l with
  | nil => simp [Lib.join_nil]
  | cons x r =>
    have h1 := h x (by simp)
    have h2 := joinTail_len (sep := sep) (r := r) (fun y hy => h y (by simp [hy]))
    rw [Lib.join_cons, List.length_append, List.length_cons, Nat.succ_mul]
    omega

/-- The text of one fault, as it lies in this world. -/
def textAt (T : Nat → Nat) (w : World) (x : Nat × Int) : ByteArray :=
  match w.cell? ⟨x.1, 0, none⟩ with
  | some (.string s) => s ++ ⟨#[58, 32]⟩ ++ enT T x.2
  | _ => ⟨#[]⟩

def textsAt (T : Nat → Nat) (w : World) (l : List (Nat × Int)) : List ByteArray := l.map (textAt T w)

theorem told_of {T : Nat → Nat} {w w' : World} {l : List (Nat × Int)} (h : Plc w l) (hb : Below w.heap.size w w') :
    ∀ (k b : Nat) (n : Int) (x : ByteArray), l[k]? = some (b, n) → (textsAt T w l)[k]? = some x → ToldT T w' b n x := by
  intro k b n x hk hx
  rw [textsAt, List.getElem?_map, hk] at hx
  simp only [Option.map_some, Option.some.injEq] at hx
  obtain ⟨s, h1, h2, h3, h4⟩ := h b n (List.mem_of_getElem? hk)
  have hlt := World.block_lt_of_cell? w _ h1
  refine ⟨s, enT T n, (hb.cell (p := ⟨b, 0, none⟩) hlt).trans h1, (hb.cell (p := ⟨b, 1, none⟩) hlt).trans h2, by omega, Nat.le_trans (enT_size T n) (by omega), fun W hW => errno_any hW h4.1 h4.2, ?_⟩
  rw [← hx, textAt, h1]

theorem texts_len {T : Nat → Nat} {w : World} {l : List (Nat × Int)} (h : Plc w l) (hl : l.length ≤ 60) : (Lib.join ((textsAt T w l).map (·.data.toList)) [32, 60, 32]).length ≤ 140737488355328 := by
  have hM : ∀ x ∈ (textsAt T w l).map (·.data.toList), x.length ≤ 1200000 := by
    intro x hx
    simp only [textsAt, List.map_map, List.mem_map, Function.comp] at hx
    obtain ⟨⟨b, n⟩, hm, rfl⟩ := hx
    obtain ⟨s, h1, _, h3, _⟩ := h b n hm
    have e : textAt T w (b, n) = s ++ ⟨#[58, 32]⟩ ++ enT T n := by rw [textAt, h1]
    rw [e]
    have h5 := enT_size T n
    show (s ++ ⟨#[58, 32]⟩ ++ enT T n).data.toList.length ≤ 1200000
    have e2 : (s ++ ⟨#[58, 32]⟩ ++ enT T n).data.toList.length = (s ++ ⟨#[58, 32]⟩ ++ enT T n).size := by rw [Array.length_toList]; rfl
    rw [e2, ByteArray.size_append, ByteArray.size_append]
    show s.size + 2 + _ ≤ _
    omega
  have h1 := join_len (sep := [32, 60, 32]) hM
  have h2 : ((textsAt T w l).map (·.data.toList)).length = l.length := by simp [textsAt]
  rw [h2] at h1
  have h3 : l.length * ([32, 60, 32].length + 1200000) ≤ 60 * 1200003 := Nat.mul_le_mul hl (by simp)
  omega

/-- (*Fault).Error in any later world: the same text. -/
theorem error_same {T : Nat → Nat} {w w' : World} {b0 : Nat} {n0 : Int} {r : List (Nat × Int)} (h : Chn w 0 ((b0, n0) :: r) (.iface 33 (.pointer (some ⟨b0, 0, none⟩)))) (hp : Plc w ((b0, n0) :: r)) (hl : ((b0, n0) :: r).length ≤ 60) (ht : TabT T w) (hb : Below w.heap.size w w') :
    Calls Tryd.prog 66 #[.pointer (some ⟨b0, 0, none⟩)] w' (TextPost w' (textsAt T w ((b0, n0) :: r))) :=
  error_chainT (h.below (Nat.le_refl _) hb) hl (ht.below ht.1 hb) (by simp [textsAt]) (texts_len hp hl) (told_of hp hb)

theorem hasB_mem {ns : List Int} {e : Int} (he : (e == 0) = false) (h : e ∈ ns) : hasB ns 0 e = true := by
  have h0 : ¬ e = 0 := by simpa using he
  unfold hasB
  rw [if_neg h0, Bool.or_eq_true]
  exact .inl (List.any_eq_true.2 ⟨e, h, by simp⟩)

def WRelF (xs : List (ByteArray × Int)) (w3 : World) (k : Nat) (i : Value) (wr : World) : Prop :=
  ∃ m, m + k = xs.length ∧ i = .int .i64 (m : Int) ∧ Below w3.heap.size w3 wr

set_option maxRecDepth 100000 in
set_option maxHeartbeats 4000000 in
theorem wraps_main {T : Nat → Nat} {w : World} {A : Option Addr} {c : Nat} {xs : List (ByteArray × Int)} {p : ByteArray} {e : Int}
    (hg : w.cell? ⟨0, 0, none⟩ = some (.iface 75 (.agg #[.pointer (some ⟨5, 25, none⟩)]))) (ht : TabT T w) (hx : Links w w.heap.size A xs) (hn : xs.length ≤ 50) (hf : Fits xs) (hp : p.size ≤ 1100000) (he : (e == 0) = false) (hE : Num e) :
    Calls Tryd.prog 5 #[.slice A xs.length c, .string p, .int .i64 e] w (FirstPost w) := by
  have F := Lib.hid (first_true hg)
  have HT := Lib.hid ht
  have HX := Lib.hid hx
  have HF := Lib.hid hf
  have HN := Lib.hid hE
  clear hg ht hx hf hE
  go_enter Tryd.func5, Tryd.ntmps5
  go_wp2_with (go_at_call 6; refine F.out.mono ?_; rintro e' w1 ⟨rfl, hb1⟩)
  have B1 := Lib.hid hb1
  have T1 := Lib.hid (HT.out.below HT.out.1 hb1)
  refine (made_plc ((HX.out.below hb1).more hb1.size) hn HF.out).mono ?_
  rintro e' w2 ⟨v, l, rfl, hc, hm, hb2, hpl⟩
  have C2 := Lib.hid hc
  have P2 := Lib.hid hpl
  have B2 := Lib.hid (B1.out.trans (hb2.mono B1.out.size))
  have T2 := Lib.hid (T1.out.below T1.out.1 hb2)
  have hll : l.length ≤ 50 := by
    have h1 := congrArg List.length hm
    rw [List.length_map] at h1
    have h2 := List.length_filter_le (fun n => !(n == 0)) (xs.map (·.2))
    rw [List.length_map] at h2
    rw [h1]
    exact Nat.le_trans h2 hn
  have HM := Lib.hid hm
  clear hb1 hc hm hb2 hpl B1 T1 F HT
  go_wp2_with fail
  refine (wrap_new p e v w2 he C2.out.isErr).mono ?_
  rintro e' w3 ⟨rfl, hw3⟩
  obtain ⟨bb, hbb⟩ : ∃ bb, bb = w2.heap.size := ⟨_, rfl⟩
  rw [← hbb]
  have C3 : Hid (Chn w3 0 ((bb, e) :: l) (.iface 33 (.pointer (some ⟨bb, 0, none⟩)))) := by rw [hbb, ← hw3]; exact Chn.push C2.out
  have hb23 : Below w2.heap.size w2 w3 := by rw [← hw3]; exact (Below.refl _ _).alloc (Nat.le_refl _) _
  have D3 : Hid (Chn w3 0 l v) := C2.out.below (Nat.le_refl _) hb23
  have P3 : Hid (Plc w3 ((bb, e) :: l)) := by rw [hbb, ← hw3]; exact P2.out.push hp HN.out
  have B3 := Lib.hid (B2.out.trans (hb23.mono B2.out.size))
  have T3 := Lib.hid (T2.out.below T2.out.1 hb23)
  have Q3 : Hid (w3.cell? ⟨bb, 0, none⟩ = some (.string p)) := by rw [hbb, ← hw3]; show World.cell? _ _ = _; simp
  clear hw3 hbb hb23 C2 P2 B2 T2
  go_wp2_with fail
  refine (depth_any C3.out (by simp; omega)).mono ?_
  rintro e' w4 ⟨rfl, hb4⟩
  have K4 := Lib.hid hb4
  clear hb4
  go_wp2_with fail
  refine (depth_any (D3.out.below (Nat.le_refl _) K4.out) (by omega)).mono ?_
  rintro e' w5 ⟨rfl, hb5⟩
  have K5 := Lib.hid (K4.out.trans (hb5.mono K4.out.size))
  clear hb5 K4
  go_wp2_with fail
  refine (has_any (e := e) (C3.out.below (Nat.le_refl _) K5.out) (by simp; omega)).mono ?_
  rw [hasB_mem he (by simp)]
  rintro e' w6 ⟨rfl, hb6⟩
  have K6 := Lib.hid (K5.out.trans (hb6.mono K5.out.size))
  clear hb6 K5
  go_wp2_with fail
  refine (place_fault bb p w6 (cell_on Q3.out K6.out)).mono ?_
  rintro e' w7 ⟨rfl, rfl⟩
  go_wp2_with fail
  go_loopg [50] xs.length (fun k i wr => WRelF xs w3 k i wr)
  case atStart => exact ⟨0, by simp, rfl, K6.out⟩
  case round =>
    obtain ⟨m, hmk, hi, hb⟩ := hrel
    subst hi
    have KR := Lib.hid hb
    clear hb K6
    cases gk with
    | zero =>
      have E1 := Lib.hid (error_same C3.out P3.out (by simp; omega) T3.out KR.out)
      have E2 := Lib.hid (fun W h => error_same (w' := W) C3.out P3.out (by simp; omega) T3.out h)
      have hme := fun (v : Value) (W : World) => Tryd.methodError v W
      obtain ⟨tx, htx⟩ : ∃ tx : ByteArray, tx = ⟨(Lib.join ((textsAt T w3 ((bb, e) :: l)).map (·.data.toList)) [32, 60, 32]).toArray⟩ := ⟨_, rfl⟩
      have HTx := Lib.hid htx
      clear htx
      go_wp2_with fail
      refine (wrap_ok p _ _).mono ?_
      rintro e' w8 ⟨rfl, rfl⟩
      go_wp2_with fail
      refine E1.out.mono ?_
      rintro e' w8 ⟨rfl, hb8⟩
      rw [← HTx.out]
      have K8 := Lib.hid (KR.out.trans (hb8.mono KR.out.size))
      clear hb8
      go_wp2_with fail
      refine (E2.out _ K8.out).mono ?_
      rintro e' w9 ⟨rfl, hb9⟩
      rw [← HTx.out]
      have K9 := Lib.hid (K8.out.trans (hb9.mono K8.out.size))
      clear hb9
      go_wp2_with fail
      go_ret
      exact ⟨rfl, B3.out.trans (K9.out.mono B3.out.size)⟩
    | succ j =>
      have hm : m < xs.length := by omega
      obtain ⟨⟨s, n⟩, hxj⟩ : ∃ x, xs[m]? = some x := ⟨_, List.getElem?_eq_getElem hm⟩
      obtain ⟨b, o, rfl, hlt, hcells⟩ := (HX.out.below (B3.out.trans (KR.out.mono B3.out.size))) (by omega)
      obtain ⟨c1, c2⟩ := hcells m s n hxj
      have HMk := Lib.hid hmk
      have HXJ := Lib.hid hxj
      clear hcells hxj hmk
      cases hz : (n == 0)
      · have hmem : n ∈ ((bb, e) :: l).map (·.2) := by
          rw [List.map_cons, HM.out]
          refine List.mem_cons_of_mem _ (List.mem_filter.2 ⟨List.mem_map.2 ⟨(s, n), List.mem_of_getElem? HXJ.out, rfl⟩, by simp [hz]⟩)
        have K2 := Lib.hid (KR.out.alloc KR.out.size (.cells #[.string s, .int .i64 n] 32))
        have H15 := Lib.hid (has_any (e := n) (C3.out.below (Nat.le_refl _) K2.out) (by simp; omega))
        rw [hasB_mem hz hmem] at H15
        have hz2 : (n != 0) = true := by simp [bne, hz]
        clear hmem
        go_wp2_with fail
        refine H15.out.mono ?_
        rintro e' w8 ⟨rfl, hb8⟩
        have K8 := Lib.hid (K2.out.trans (hb8.mono K2.out.size))
        clear hb8 K2 KR H15
        go_wp2_with fail
        go_roundg j
        case measure => omega
        case rel => exact ⟨m + 1, by have := HMk.out; omega, by go_num, K8.out⟩
      · have hn0 : n = 0 := by simpa using hz
        subst hn0
        clear hz
        go_wp2_with fail
        go_roundg j
        case measure => omega
        case rel => exact ⟨m + 1, by have := HMk.out; omega, by go_num, KR.out.alloc KR.out.size _⟩
end Go.Proofs.YtflmfppigpeiaaaDoor
