/- (*Fault).Error at a chain that ends in nothing: the texts of its faults, with " < " between them. -/
import Derived.Test.YtflmfppigpeiaaaDoorK
import Derived.Test.YtflmfppigpeiaaaDoorShelf
import Derived.Deep.RegionHeld3
import Derived.Deep.AppendLies
namespace Go.Proofs.YtflmfppigpeiaaaDoor
open Go.RowKit

theorem Tryd.info9 : (Tryd.prog.info? 9).map (fun i => (i.zero, i.size, i.bytes)) = some (some (.string ⟨#[]⟩), 1, 16) := by kernel_rfl

/-- Of a fault at block b with number n: its place, the text of its number, and what Error makes of both. -/
def Told (w : World) (b : Nat) (n : Int) (x : ByteArray) : Prop :=
  ∃ s t : ByteArray, w.cell? ⟨b, 0, none⟩ = some (.string s) ∧ w.cell? ⟨b, 1, none⟩ = some (.int .i64 n) ∧ s.size ≤ 1000 ∧ t.size ≤ 1000 ∧
    (∀ W : World, Calls Tryd.prog 51 #[.int .i64 n] W fun e w' => e = .returned (.string t) ∧ W = w') ∧ x = s ++ ⟨#[58, 32]⟩ ++ t

def strCells (l : List ByteArray) : List Value := l.map .string

def TextRel (w0 : World) (l : List (Nat × Int)) (ts : List ByteArray) (k : Nat) (v i : Value) (wr : World) : Prop :=
  ∃ m, m + k = l.length ∧ i = .int .i64 (m : Int) ∧ wr.ownsRow w0.heap.size 9 1 v m (strCells (ts.take m)) ∧ Below w0.heap.size w0 wr

def TextPost (w : World) (ts : List ByteArray) (e : Ending) (w' : World) : Prop :=
  e = .returned (.string ⟨(Lib.join (ts.map (·.data.toList)) [32, 60, 32]).toArray⟩) ∧ Below w.heap.size w w'

set_option maxRecDepth 100000 in
set_option maxHeartbeats 1000000 in
theorem error_chain {w : World} {b0 : Nat} {n0 : Int} {r : List (Nat × Int)} {ts : List ByteArray} (h : Chn w 0 ((b0, n0) :: r) (.iface 33 (.pointer (some ⟨b0, 0, none⟩)))) (hl : ((b0, n0) :: r).length ≤ 50)
    (hts : ts.length = ((b0, n0) :: r).length) (hjl : (Lib.join (ts.map (·.data.toList)) [32, 60, 32]).length ≤ 140737488355328) (hT : ∀ (k b : Nat) (n : Int) (x : ByteArray), ((b0, n0) :: r)[k]? = some (b, n) → ts[k]? = some x → Told w b n x) :
    Calls Tryd.prog 66 #[.pointer (some ⟨b0, 0, none⟩)] w (TextPost w ts) := by
  have H21 := Lib.hid (chain_any h (by omega))
  have HH := Lib.hid h
  have HT := Lib.hid hT
  obtain ⟨l, hl'⟩ : ∃ l, l = (b0, n0) :: r := ⟨_, rfl⟩
  rw [← hl'] at H21 HH HT hl hts
  have HL := Lib.hid hl'
  have hlp : 0 < l.length := by rw [hl']; simp
  have HTS := Lib.hid hts
  clear h hT hl' hts
  obtain ⟨i0, hi, hz0, hz1, hz2⟩ := info_parts Tryd.info9
  go_enter Tryd.func66, Tryd.ntmps66
  go_wp2_with (go_at_call 21; refine H21.out.mono ?_; rintro e w' ⟨sv, rfl, hown, hb⟩; rcases hown.2 with ⟨rfl, hn⟩ | ⟨g, cap, cur, rfl, hg, hh, hnc, hcm, hcs, htk⟩)
  · omega
  · have hgl := (hown.lt g rfl).2
    have HC : Hid (∀ (k b : Nat) (n : Int), l[k]? = some (b, n) → w'.cell? ⟨g, k, none⟩ = some (.pointer (some ⟨b, 0, none⟩))) := by
      intro k b n hx
      have := hown.cells (g := g) rfl k (.pointer (some ⟨b, 0, none⟩)) (by simp [ptrs, hx])
      simpa [Addr.add_lit] using this
    have HB := Lib.hid hb
    clear hown hb hh htk hcs hg
    go_loopg [5, 18] l.length (fun k v i wr => TextRel w' l ts k v i wr)
    case atStart => exact ⟨0, by simp, rfl, World.ownsRow_nil _ _ _ _, Below.refl _ _⟩
    case round =>
      obtain ⟨m, hmk, hi', hown, hb⟩ := hrel
      subst hi'
      cases gk with
      | zero =>
        obtain rfl : m = ts.length := by have := HTS.out; omega
        rcases hown.2 with ⟨_, hn⟩ | ⟨g2, cap2, cur2, hv, hg2, hh2, hnc2, hcm2, hcs2, htk2⟩
        · have := HTS.out; omega
        · subst hv
          have e1 : lastV 0 = .nilIface := rfl
          have hge : l.length ≤ ts.length := by have := HTS.out; omega
          have hlt2 := (hown.lt g2 rfl).2
          have hcells : ∀ (j : Nat) (x : ByteArray), ts[j]? = some x → wr.cell? ⟨g2, 0 + j, none⟩ = some (.string x) := by
            intro j x hx
            have := hown.cells (g := g2) rfl j (.string x) (by rw [List.take_length]; simp [strCells, hx])
            simpa [Addr.add_lit] using this
          have J := Lib.hid (Tryd.strings_Join g2 0 cap2 ts ⟨#[32, 60, 32]⟩ wr hcells hlt2 (by have := HTS.out; omega) hnc2 hjl)
          have HBB := Lib.hid ((HB.out.trans (hb.mono HB.out.size)))
          have hsz := HBB.out.size
          clear hown hb hcells hcs2 htk2 hh2 hg2 hmk
          go_wp2_with (go_at_call 68; refine J.out.mono ?_; rintro e w' ⟨rfl, hj⟩)
          go_ret
          exact ⟨rfl, HBB.out.trans (hj.mono hsz)⟩
      | succ j =>
        have hm : m < l.length := by omega
        obtain ⟨⟨b, n⟩, hxj⟩ : ∃ x, l[m]? = some x := ⟨_, List.getElem?_eq_getElem hm⟩
        obtain ⟨x, htj⟩ : ∃ x, ts[m]? = some x := ⟨_, List.getElem?_eq_getElem (by have := HTS.out; omega)⟩
        obtain ⟨s, t, c0, c1, hss, hst, hC, hxe⟩ := HT.out m b n x hxj htj
        have hbb := World.block_lt_of_cell? w _ c0
        have hsz := hb.size
        have hbw := HB.out.size
        have d0 := (hb.cell (p := ⟨b, 0, none⟩) (by simp at hbb ⊢; omega)).trans ((HB.out.cell (p := ⟨b, 0, none⟩) hbb).trans c0)
        have d1 := (hb.cell (p := ⟨b, 1, none⟩) (by simp at hbb ⊢; omega)).trans ((HB.out.cell (p := ⟨b, 1, none⟩) hbb).trans c1)
        have d2 := (hb.cell (p := ⟨g, m, none⟩) hgl).trans (HC.out m b n hxj)
        have HXJ := Lib.hid hxj
        have HTJ := Lib.hid htj
        have HM := Lib.hid hmk
        have HCC := Lib.hid hC
        have HXE := Lib.hid hxe
        clear c0 c1 hxj htj hmk hC hxe
        go_wp2_with fail
        have a1 : ∀ W : World, (Op.stringOp .add s ⟨#[58, 32]⟩).run Tryd.prog W = .ok (.string (s ++ ⟨#[58, 32]⟩)) W := fun W => run_string_add_sum _ _ _ (by show s.size + 2 ≤ _; omega)
        have a2 : ∀ W : World, (Op.stringOp .add (s ++ ⟨#[58, 32]⟩) t).run Tryd.prog W = .ok (.string (s ++ ⟨#[58, 32]⟩ ++ t)) W := fun W => run_string_add_sum _ _ _ (by rw [ByteArray.size_append]; show s.size + 2 + t.size ≤ _; omega)
        have hlb := World.block_lt_of_cell? wr _ d0
        have hnb : u5.ownBlock ≠ some b := fun e => by have := (hown.lt b e).1; omega
        have htl : m ≤ 50 := by omega
        go_region_held3 (fun w' => w'.cell? ⟨b, 0, none⟩ = some (.string s) ∧ w'.cell? ⟨b, 1, none⟩ = some (.int .i64 n))
          (first
            | go_keep
            | (go_split_ands
               refine ⟨?_, ?_⟩
               · (rw [hgrow.cell_far _ (by simp; omega) (Ne.symm hnb)]; assumption)
               · (rw [hgrow.cell_far _ (by simp; omega) (Ne.symm hnb)]; assumption)))
          (first
            | (go_at_call 51; refine (HCC.out _).mono ?_; rintro e w' ⟨rfl, rfl⟩)
            | (refine step_append_lies _ (by rfl) _ _ _ (by rfl) w'.heap.size 9 i0 _ 1 16 Tryd.underlying37 hi hz0 hz1 hz2 rfl (by omega) u5 _ _ (by rfl) ((hown.alloc _).drew)
                ⟨wr.heap.size, 0, none⟩ 1 1 [.string (s ++ ⟨#[58, 32]⟩ ++ t)] (by rfl) (by rfl) (World.news_of_block (cs := #[.string (s ++ ⟨#[58, 32]⟩ ++ t)]) (t := 9) (fr := (0, 0)) (heap_alloc_new wr _)) (by simp [Value.oneCell'])
                (by omega) (by unfold maxLen; omega) (by omega) (by simp; omega) (wr.heap.size + 1) (by simp) ?_; intro gg cap' w1 hown1 hgrow hat hlt))
        have hb1 : Below w'.heap.size w' w1 := ((hb.alloc hsz _).drew).grown hgrow (by simp; omega) (fun k hk => (hown.lt k hk).1)
        have HO := Lib.hid hown1
        have HB1 := Lib.hid hb1
        clear hown1 hgrow hown hb hb1 d0 d1 d2 hat hlt
        go_wp2_with fail
        go_roundg j
        case measure => omega
        case rel =>
          refine ⟨m + 1, by have := HM.out; omega, by go_num, ?_, HB1.out⟩
          have e := HO.out
          rw [← HXE.out] at e
          rw [List.take_add_one, HTJ.out]
          simpa [strCells] using e
end Go.Proofs.YtflmfppigpeiaaaDoor
