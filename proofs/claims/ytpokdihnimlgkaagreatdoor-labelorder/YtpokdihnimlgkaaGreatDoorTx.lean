/- label.Text. -/
import Derived.Test.YtpokdihnimlgkaaGreatDoorFl
import Derived.Test.YtpokdihnimlgkaaGreatDoorJoin
import Derived.Lib.ItoaLen
import Derived.Deep.AppendLies
namespace Go.Proofs.YtpokdihnimlgkaaGreatDoor
open Go.RowKit

/-- The text of an entry; of a label. -/
def entText (e : Ent) : List UInt8 := e.1 ++ [61] ++ Lib.itoa e.2
def labText (l : List Ent) : List UInt8 := if l = [] then [45] else Lib.join (l.map entText) [44]

/-- The levels are numbers of 64 bits. -/
def Wide (l : List Ent) : Prop := ∀ e ∈ l, -9223372036854775808 ≤ e.2 ∧ e.2 ≤ 9223372036854775807
theorem RightL.wide {l : List Ent} (h : RightL l) : Wide l := fun e he => by
  have := (entErr_zero.1 (h.2.1 e he).1).2
  omega

theorem lens_le (M : Nat) : ∀ xs : List (List UInt8), (∀ x ∈ xs, x.length ≤ M) → Lib.lens xs ≤ xs.length * M
  | [], _ => by simp [Lib.lens]
  | x :: r, h => by
    have h1 := lens_le M r fun y hy => h y (List.mem_cons_of_mem _ hy)
    have h2 := h x (by simp)
    have e : Lib.lens (x :: r) = x.length + Lib.lens r := by simp [Lib.lens]
    rw [e, List.length_cons, Nat.succ_mul]
    omega
theorem labText_len {l : List Ent} (hl : l.length ≤ 1000) (hx : ∀ e ∈ l, e.1.length ≤ 2000000) (hw : Wide l) : (Lib.join (l.map entText) [44]).length ≤ 140737488355328 := by
  cases l with
  | nil => simp [Lib.join_nil]
  | cons x r =>
    rw [List.map_cons, Lib.join_length]
    have h1 := lens_le 2000100 (entText x :: r.map entText) (fun y hy => by
      rw [← List.map_cons] at hy
      obtain ⟨e, he, rfl⟩ := List.mem_map.1 hy
      have h1 := hx e he
      have h2 := hw e he
      have h3 := Lib.itoa_length_le e.2 h2.1 h2.2
      simp [entText]
      omega)
    simp at h1 hl ⊢
    have : (r.length + 1) * 2000100 ≤ 1000 * 2000100 := Nat.mul_le_mul_right _ (by omega)
    omega

def TxRel (w : World) (l : List Ent) (k : Nat) (v i : Value) (wr : World) : Prop :=
  ∃ m, m + k = l.length ∧ i = .int .i64 (m : Int) ∧ StrRow wr w.heap.size v ((l.take m).map entText) ∧ Below w.heap.size w wr

theorem StrRow.alloc {w : World} {B : Nat} {v : Value} {R : List (List UInt8)} (h : StrRow w B v R) (o : Obj) : StrRow (w.alloc o) B v R := World.ownsRow.alloc h o

set_option maxRecDepth 100000 in
set_option maxHeartbeats 1000000 in
theorem labelText_any {w : World} {A : Option Addr} {c : Nat} {l : List Ent} (he : Env w) (h : Lab w A c l) (hn : l.length ≤ 1000) (hx : ∀ e ∈ l, e.1.length ≤ 2000000) (hw : Wide l) :
    Calls Tryz.prog 18 #[.slice A l.length c] w (RetB w (.string (str (labText l)))) := by
  have HE := Lib.hid he
  have HL := Lib.hid h
  have HW := Lib.hid hw
  have HJL := Lib.hid (labText_len hn hx hw)
  have HXT := Lib.hid hx
  clear hx
  clear he h hw
  cases hl0 : l with
  | nil =>
    go_enter Tryz.func18, Tryz.ntmps18
    go_wp2_with fail
    go_ret
    exact ⟨rfl, Below.refl _ _⟩
  | cons x0 r0 =>
  rw [← hl0]
  have hpos : 0 < l.length := by rw [hl0]; simp
  have HNE : Hid (labText l = Lib.join (l.map entText) [44]) := by unfold Hid labText; rw [if_neg (by rw [hl0]; simp)]
  clear hl0
  obtain ⟨i0, hi, hz0, hz1, hz2⟩ := info_parts Tryz.info9
  go_enter Tryz.func18, Tryz.ntmps18
  go_wp2_with fail
  have hd : ((l.length : Int) == 0) = false := by rw [beq_eq_false_iff_ne]; omega
  simp only [hd]
  go_loopg [3, 11] l.length (fun k v i wr => TxRel w l k v i wr)
  case atStart => exact ⟨0, by simp, rfl, World.ownsRow_nil _ _ _ _, Below.refl _ _⟩
  case round =>
    obtain ⟨m, hmk, hi', hown, hb⟩ := hrel
    subst hi'
    have HB := Lib.hid hb
    cases gk with
    | zero =>
      have hge : l.length ≤ m := by omega
      rw [List.take_of_length_le hge] at hown
      obtain ⟨A2, c2, hv, hstr⟩ := hown.strs
      have hlm : (l.map entText).length = l.length := by simp
      obtain ⟨g2, o2, hA2, hlt2, hc2⟩ := hstr (by omega)
      have hcap : (l.map entText).length ≤ c2 := by
        have h0 : wr.ownsRow w.heap.size 9 1 _ (l.map entText).length (strCellsOf (l.map entText)) := hown
        rw [hv] at h0
        rcases h0.2 with ⟨hx, _⟩ | ⟨g', cap', cur, hx, _, _, hle, _⟩
        · injection hx with hx _ _
          rw [hA2] at hx
          cases hx
        · injection hx with _ _ hx
          omega
      rw [hlm] at hv
      subst hv hA2
      have J := Lib.hid (Tryz.strings_Join g2 o2 c2 ((l.map entText).map str) ⟨#[44]⟩ wr (fun j x hx => by
        rw [List.getElem?_map] at hx
        obtain ⟨y, hy, rfl⟩ := Option.map_eq_some_iff.1 hx
        exact hc2 j y hy) hlt2 (by simp; omega) (by simpa using hcap) (by
        have := HJL.out
        simpa [Function.comp_def, str_list] using this))
      have e1 : ((l.map entText).map str).map (fun x : ByteArray => x.data.toList) = l.map entText := by simp [Function.comp_def, str_list]
      rw [e1, List.length_map, hlm] at J
      have J2 : Hid (Calls Tryz.prog 42 #[.slice (some ⟨g2, o2, none⟩) l.length c2, .string ⟨#[44]⟩] wr fun e w' => e = .returned (.string (str (labText l))) ∧ Below wr.heap.size wr w') := J.out.mono fun e w' h => ⟨by rw [h.1, HNE.out]; rfl, h.2⟩
      have HBB := Lib.hid HB.out
      clear hown hb hstr hc2 J e1 hcap hlm
      go_wp2_with fail
      refine J2.out.mono ?_
      rintro e w' ⟨rfl, hj⟩
      have HJ := Lib.hid hj
      clear hj J2
      go_wp2_with fail
      go_ret
      exact ⟨rfl, HBB.out.trans (HJ.out.mono HBB.out.size)⟩
    | succ j =>
      have hm : m < l.length := by omega
      obtain ⟨⟨t, n⟩, hx⟩ : ∃ x, l[m]? = some x := ⟨_, List.getElem?_eq_getElem hm⟩
      obtain ⟨b, o, rfl, hlt, hcells⟩ := (HL.out.ents.below hb) (by omega)
      obtain ⟨c1, c2⟩ := hcells m t n hx
      have hmem := List.mem_of_getElem? hx
      have htl : t.length ≤ 2000000 := HXT.out _ hmem
      have hnw := HW.out _ hmem
      have hsz := hb.size
      have HM := Lib.hid hmk
      have HX := Lib.hid hx
      obtain ⟨N, hN⟩ : ∃ N, N = Lib.itoa n := ⟨_, rfl⟩
      have hNl : N.length ≤ 21 := by rw [hN]; exact Lib.itoa_length_le n hnw.1 hnw.2
      obtain ⟨W0, hW0⟩ : ∃ W0, W0 = wr.alloc (.cells #[.string (str t), .int .i64 n] 33) := ⟨_, rfl⟩
      have hB0 : Below wr.heap.size wr W0 := by rw [hW0]; exact (Below.refl _ _).alloc (Nat.le_refl _) _
      have k0 : W0.cell? ⟨wr.heap.size, 0, none⟩ = some (.string (str t)) := by rw [hW0]; simp
      have k1 : W0.cell? ⟨wr.heap.size, 1, none⟩ = some (.int .i64 n) := by rw [hW0]; simp
      have hg0 : wr.heap.size < W0.heap.size := by rw [hW0]; simp
      have hwW : w.heap.size ≤ W0.heap.size := by omega
      have E0 := (HE.out.on hb).on hB0
      have HI : Hid (∀ W, Below W0.heap.size W0 W → Calls Tryz.prog 41 #[.int .i64 n] W fun e w' => e = .returned (.string (str N)) ∧ Below W0.heap.size W0 w') := fun W h => by
        rw [hN]
        exact (itoa_any (E0.on h) hnw.1 hnw.2).mono fun e w' h2 => ⟨h2.1, h.trans (h2.2.mono h.size)⟩
      have R0 : StrRow W0 w.heap.size u3 ((l.take m).map entText) := hown.below hB0
      have HR0 := Lib.hid R0
      have hnb : u3.ownBlock ≠ some wr.heap.size := fun e => by have := (World.ownsRow.lt hown _ e).2; omega
      have hlen : ((l.take m).map entText).length = m := by simp; omega
      have HTX : Hid (entText (t, n) = t ++ [61] ++ N) := by unfold Hid entText; rw [hN]
      have HB0 := Lib.hid hB0
      have HW0 := Lib.hid hW0
      have a1 : ∀ W : World, (Op.stringOp .add (str t) ⟨#[61]⟩).run Tryz.prog W = .ok (.string (str (t ++ [61]))) W := fun W => by
        have := run_string_add_sum (P := Tryz.prog) W (str t) ⟨#[61]⟩ (by rw [str_size]; show t.length + 1 ≤ _; omega)
        rw [this, ← str_append]; rfl
      have a2 : ∀ W : World, (Op.stringOp .add (str (t ++ [61])) (str N)).run Tryz.prog W = .ok (.string (str (t ++ [61] ++ N))) W := fun W => by
        have := run_string_add_sum (P := Tryz.prog) W (str (t ++ [61])) (str N) (by rw [str_size, str_size]; simp; omega)
        rw [this, str_append]
      obtain ⟨X, hX⟩ : ∃ X, X = t ++ [61] ++ N := ⟨_, rfl⟩
      rw [← hX] at a2
      have HXX := Lib.hid hX
      have hbase : w.heap.size ≤ W0.heap.size := hwW
      clear hcells hx hmk hb hB0 R0 hown hN hnw hmem E0 hW0 hX
      go_wp2_with fail
      rw [← HW0.out]
      go_region_held3 (fun W => W.cell? ⟨wr.heap.size, 0, none⟩ = some (.string (str t)) ∧ W.cell? ⟨wr.heap.size, 1, none⟩ = some (.int .i64 n))
        (first
          | go_keep
          | exact ⟨(hbA.cell (p := ⟨wr.heap.size, 0, none⟩) hg0).trans k0, (hbA.cell (p := ⟨wr.heap.size, 1, none⟩) hg0).trans k1⟩
          | (go_split_ands
             refine ⟨?_, ?_⟩
             · (rw [hgrow.cell_far _ (by have := hbA.size; simp at this hg0 ⊢; omega) (Ne.symm hnb)]; assumption)
             · (rw [hgrow.cell_far _ (by have := hbA.size; simp at this hg0 ⊢; omega) (Ne.symm hnb)]; assumption)))
        (first
          | (go_at_call 41; refine (HI.out _ (Below.refl _ _).drew).mono ?_; rintro e w2 ⟨rfl, hbA⟩)
          | (refine step_append_lies _ (by rfl) _ _ _ (by rfl) w.heap.size 9 i0 _ 1 16 Tryz.underlying54 hi hz0 hz1 hz2 rfl (by omega) u3 _ _ (by rfl) ((HR0.out.below hbA).alloc _)
              ⟨w2.heap.size, 0, none⟩ 1 1 [.string (str X)] (by rfl) (by rfl) (World.news_of_block (cs := #[.string (str X)]) (t := 9) (fr := (0, 0)) (heap_alloc_new w2 _)) (by simp [Value.oneCell'])
              (by omega) (by unfold maxLen; omega) (by omega) (by have := hbA.size; simp at this ⊢; omega) (w2.heap.size + 1) (by simp) ?_; intro gg cap' w1 hown1 hgrow hat hlt'))
      have hb1 : Below w.heap.size w w1 := (((HB.out.trans (HB0.out.mono hsz)).trans (hbA.mono hwW)).alloc (by have := hbA.size; omega) _).grown hgrow (by have := hbA.size; simp at this ⊢; omega) (fun k hk => (World.ownsRow.lt HR0.out k hk).1)
      have HO := Lib.hid hown1
      have HB1 := Lib.hid hb1
      clear hown1 hgrow hb1 k0 k1 c1 c2 hat hlt' hbA
      go_wp2_with fail
      go_roundg j
      case measure => omega
      case rel =>
        refine ⟨m + 1, by have := HM.out; omega, by go_num, ?_, HB1.out⟩
        have e := HO.out
        unfold StrRow strCellsOf
        rw [List.take_add_one, HX.out]
        simp only [Option.toList_some, List.map_append, List.map_cons, List.map_nil, List.length_append, List.length_cons, List.length_nil]
        rw [HTX.out, ← HXX.out, Nat.zero_add, hlen, Nat.min_eq_left (Nat.le_of_lt hm)]
        rw [hlen] at e
        exact e
end Go.Proofs.YtpokdihnimlgkaaGreatDoor
