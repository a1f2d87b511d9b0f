/- What the rows' proofs share: the library's variables off what the rows list and off the world's shape; a slice of ints, a slice of strings that came in, opened; the witness. -/
import Derived.Test.YtpokdihnimlgkaaGreatDoorRows
import Derived.Test.YtpokdihnimlgkaaGreatDoorFl
import Derived.Test.YtpokdihnimlgkaaGreatDoorTx
import Derived.Deep.SlicePairs
import Derived.ProofKit
import Derived.OpenShut
import Derived.SliceStrings
import Derived.ChangeMaps5
import Derived.LaidMore
import Derived.Lay
import Derived.MakeChecks
import Derived.ChangeOld
import Derived.Shelf.Vars
import Derived.Stop.LaidErr
import Derived.Stop.Joined
import Derived.Lib.LaidTab
import Derived.Deep.DeepHandedRow
import Derived.SevenTiedAt
namespace Go.Proofs.YtpokdihnimlgkaaGreatDoor
open Go.ChangeShapes Go.WideShapes Go.ChangeAt Go.RowKit

theorem Tryz.own : ownKnob Tryz.prog.godebug = none := by kernel_rfl
theorem Tryz.laidOut : laidOutB Tryz.prog = true := by kernel_rfl
theorem Tryz.cells3 : Tryz.prog.cellsOf 3 = 1 := by kernel_rfl
theorem Tryz.cells9 : Tryz.prog.cellsOf 9 = 1 := by kernel_rfl

/-- What all rows list. -/
def laidList : List (String × DataW Unit) := [("math/bits.deBruijn32tab", Rows.laid_math_bits_deBruijn32tab), ("math/bits.deBruijn64tab", Rows.laid_math_bits_deBruijn64tab), ("internal/strconv.uint64pow10", Rows.laid_internal_strconv_uint64pow10), ("unicode/utf8.acceptRanges", Rows.laid_unicode_utf8_acceptRanges), ("strconv.ErrRange", Rows.laid_strconv_ErrRange), ("strconv.ErrSyntax", Rows.laid_strconv_ErrSyntax), ("unicode/utf8.first", Rows.laid_unicode_utf8_first)]

theorem pow_data : (Rows.laid_internal_strconv_uint64pow10 : DataW Unit) = Lib.tabData .u64 Lib.pow10Tab := by kernel_rfl

theorem Tryz.glob7 : ((begin Tryz.prog (fun _ _ => 0) default).world.heap[7]?).bind Obj.row? = some (Array.replicate 32 (.int .u8 0), 173) := by kernel_rfl
theorem star : "*" ++ "errors.errorString" = "*errors.errorString" := by decide
theorem row175 (u : TypeId) (h : Tryz.prog.typeName? 3 u = some "*errors.errorString") : u = 175 :=
  typeName_ptr_named (nm := "errors.errorString") (by rw [star]; kernel_rfl) (by kernel_rfl) (by decide) u (by rw [star]; exact h)

set_option maxRecDepth 100000 in
theorem env_of {W : World} (hsh : W.ShapedOpen Tryz.prog) (h : laidMetH Tryz.prog laidList W) : Env W := by
  rw [MakeChecks.laidMetH_plain _ _ _ (by kernel_rfl)] at h
  have h3 := h.tail.tail
  have ht : Lib.TabIs Tryz.prog W "internal/strconv.uint64pow10" .u64 Lib.pow10Tab :=
    Lib.tabIs_of_head (g := 1) (t := 147) (e := 125) (n := 20) (by kernel_rfl) (by kernel_rfl) Tryz.underlying147 Tryz.underlying125 (by kernel_rfl) (by kernel_rfl) (by rw [← pow_data]; exact h3)
  have h5 := h3.tail.tail
  have h6 := h5.tail
  obtain ⟨a5, s5, hv5, _⟩ := laid_sentinel (P := Tryz.prog) (g := 3) (ti := 73) (tp := 175) (te := 177) (ts := 9) h5 (by kernel_rfl) (by kernel_rfl) Tryz.underlying73 row175 Tryz.underlying175 Tryz.underlying177 rfl rfl Tryz.underlying9 (by kernel_rfl) (by kernel_rfl)
  obtain ⟨a6, s6, hv6, _⟩ := laid_sentinel (P := Tryz.prog) (g := 2) (ti := 73) (tp := 175) (te := 177) (ts := 9) h6 (by kernel_rfl) (by kernel_rfl) Tryz.underlying73 row175 Tryz.underlying175 Tryz.underlying177 rfl rfl Tryz.underlying9 (by kernel_rfl) (by kernel_rfl)
  obtain ⟨m, hm⟩ := cell_of_shapedOpen_int (P := Tryz.prog) (g := 0) (t := 3) (zero := #[.int .i64 0]) hsh (of_decide_eq_true (by kernel_rfl)) (by kernel_rfl) rfl (by kernel_rfl) (by kernel_rfl) Tryz.underlying3
  have c7 : W.heap.size ≥ 8 := by
    obtain ⟨cs, hh, _⟩ := hsh.1 7 _ 173 (of_decide_eq_true (by kernel_rfl)) Tryz.glob7
    have := (Array.getElem?_eq_some_iff.1 hh).1
    omega
  have e5 : W.cell? ⟨3, 0, none⟩ = some (.iface 175 (.pointer (some a5))) := by simpa using World.var?_cell (P := Tryz.prog) (g := 3) (by kernel_rfl) hv5 0
  have e6 : W.cell? ⟨2, 0, none⟩ = some (.iface 175 (.pointer (some a6))) := by simpa using World.var?_cell (P := Tryz.prog) (g := 2) (by kernel_rfl) hv6 0
  exact ⟨c7, ⟨m, hm⟩, ⟨_, _, e6⟩, ⟨_, _, e5⟩, ht⟩

theorem bounds_i64 {n : Int} (h : (Lit.int .i64 n).wf = true) : -9223372036854775808 ≤ n ∧ n ≤ 9223372036854775807 := by
  have e1 : IntKind.i64.min = -9223372036854775808 := by decide
  have e2 : IntKind.i64.max = 9223372036854775807 := by decide
  simp only [Lit.wf, e1, e2, Bool.and_eq_true, decide_eq_true_eq] at h
  exact h

theorem Tryz.cells33 : Tryz.prog.cellsOf 33 = 2 := by kernel_rfl

/-- An entry, as data. -/
def entData {H : Type} (e : Ent) : DataW H := .agg [.lit (.string e.1), .lit (.int .i64 e.2)]

/- A slice of entries that came in, opened. -/
set_option maxRecDepth 100000 in
theorem open_ents {H : Type} {enc : TypeId × Value → H} {W : World} {base : Nat} {sp : Nat → Bool} {held : Bool} {v : Value} {d : DataW H} {p : List MemPlace}
    (h : DataW.Trod enc Tryz.prog W base sp held 23 v d p) (hv : ∃ a len cap, v = .slice a len cap) :
    ∃ (A : Option Addr) (c : Nat) (l : List Ent), v = .slice A l.length c ∧ (A = none → c = 0) ∧ l.length ≤ maxLen ∧ (∀ e ∈ l, e.1.length ≤ maxLen) ∧ Wide l ∧ Ents W W.heap.size A l ∧ (d = .nil ∧ l = [] ∨ ∃ sp', d = .slice (l.map entData) sp') := by
  obtain ⟨a, len, cap, rfl⟩ := hv
  obtain ⟨fuel, hf⟩ := h
  rcases Go.Deep.open_slice Tryz.underlying23 hf with ⟨hcs, hx⟩ | ⟨a', len', cap', m, n, D, Pl, hcs, hb, hl, hm, hmm, hx, hi⟩
  · simp [Value.cells] at hcs
    obtain ⟨rfl, rfl, rfl⟩ := hcs
    exact ⟨none, 0, [], rfl, fun _ => rfl, by simp, by simp, by simp [Wide], Ents.nil _ _ _, .inl ⟨(Prod.mk.inj hx).1, rfl⟩⟩
  · simp [Value.cells] at hcs
    obtain ⟨rfl, rfl, rfl⟩ := hcs
    have hlm : len ≤ m := by rw [hmm]; split <;> omega
    have each : ∀ i, i < len → ∃ y : Ent, W.cell? (a'.add (i * 2)) = some (.string (str y.1)) ∧ W.cell? (a'.add (i * 2 + 1)) = some (.int .i64 y.2) ∧ y.1.length ≤ maxLen ∧ (Lit.int .i64 y.2).wf = true ∧ D i = entData y := by
      intro i hil
      obtain ⟨cs', h1, h2⟩ := hi i (by omega)
      rw [Tryz.cells33] at h1
      obtain ⟨_, hlen, hcell⟩ := World.cells?_some h1
      obtain ⟨xs, k, hk, hxy, _, hxl, hf⟩ := DataW.trod_struct Tryz.underlying33 h2
      match xs, hxl, cs', hlen with
      | [y0, y1], _, [v0, v1], _ =>
        have g0 := hf 0 _ rfl
        have g1 := hf 1 _ rfl
        simp [Tryz.cells3, Tryz.cells9] at g0 g1
        have e0 := hcell 0 (by omega)
        have e1 := hcell 1 (by omega)
        rw [Go.Deep.add_add] at e0 e1
        simp at e0 e1
        obtain ⟨s, hs, hsd, hsz⟩ := DataW.trod_string Tryz.underlying9 g0
        obtain ⟨z1, hz1, hz1d, hw1⟩ := DataW.trod_int Tryz.underlying3 g1
        simp at hs hz1
        refine ⟨(s.data.toList, z1), by rw [e0, hs, ← str_of], by rw [e1, hz1], by rw [Array.length_toList]; exact hsz, hw1, ?_⟩
        have := (Prod.mk.inj hxy).1
        rw [this]
        simp [entData, hsd, hz1d]
    haveI : Inhabited Ent := ⟨([], 0)⟩
    obtain ⟨f, hf'⟩ := Go.Deep.choose_lt each
    refine ⟨some a', cap, (List.range len).map f, by simp, fun h => (by cases h), by simp; omega, ?_, ?_, fun hp => ?_, .inr ⟨(List.range (m - len)).map fun j => D (len + j), (Prod.mk.inj hx).1.trans ?_⟩⟩
    · intro q hq
      simp only [List.mem_map, List.mem_range] at hq
      obtain ⟨i, hil, rfl⟩ := hq
      exact (hf' i hil).2.2.1
    · intro q hq
      simp only [List.mem_map, List.mem_range] at hq
      obtain ⟨i, hil, rfl⟩ := hq
      exact bounds_i64 (hf' i hil).2.2.2.1
    · simp at hp
      obtain ⟨b, off, spot⟩ := a'
      have hspot : spot = none := by simpa [Addr.add] using World.cell?_spot (hf' 0 hp).1
      subst hspot
      have hlt := World.block_lt_of_cell? W _ (hf' 0 hp).1
      refine ⟨b, off, rfl, by simpa [Addr.add] using hlt, fun k s n hk => ?_⟩
      simp at hk
      obtain ⟨i, hi', hk⟩ := hk
      obtain ⟨hkl, rfl⟩ := List.getElem?_eq_some_iff.1 hi'
      simp at hkl hk
      obtain ⟨e0, e1, _⟩ := hf' k hkl
      rw [add_plain] at e0 e1
      rw [hk] at e0 e1
      exact ⟨e0, by rw [Nat.add_assoc]; exact e1⟩
    · congr 1
      rw [List.map_map]
      refine List.map_congr_left fun i hi' => ?_
      exact (hf' i (List.mem_range.1 hi')).2.2.2.2

/-- A slice's arguments are right where the law may be asked. -/
theorem lab_of {W : World} {A : Option Addr} {c : Nat} {l : List Ent} (h : Ents W W.heap.size A l) (h0 : A = none → c = 0) (hx : ∀ e ∈ l, e.1.length ≤ 140737488351232) (hn : l.length ≤ maxLen) : Lab W A c l := ⟨h, h0, hx, hn⟩

/-- 'There is an input that fits.' -/
theorem witness_laid {H : Type} {enc : TypeId × Value → H} {os : Os} {f : FuncId} {fn : Func} {s : ChangeSpec} {conds : List PathCond} {laid : List (String × DataW Unit)} (args : Array Value)
    (hsh : ((World.laidAll Tryz.prog os laid).forCall (fun _ _ => 0) ⟨#[], args, []⟩).Shaped Tryz.prog)
    (hok : Input.okWideB Tryz.prog ((World.laidAll Tryz.prog os laid).forCall (fun _ _ => 0) ⟨#[], args, []⟩) f ⟨#[], args, []⟩ = true)
    (hpre : s.preB enc Tryz.prog fn conds false ((World.laidAll Tryz.prog os laid).forCall (fun _ _ => 0) ⟨#[], args, []⟩).memory args 8 = true)
    (hsz : s.sizedB enc Tryz.prog fn false ((World.laidAll Tryz.prog os laid).forCall (fun _ _ => 0) ⟨#[], args, []⟩).memory args 8 = true)
    (hx : laidMetH Tryz.prog laid ((World.laidAll Tryz.prog os laid).forCall (fun _ _ => 0) ⟨#[], args, []⟩).memory) :
    ∃ (w : World) (tape : Tape) (i : Input), w.os = os ∧ (w.forCall tape i).Shaped Tryz.checked.prog ∧ i.vars = [] ∧ Input.okWide Tryz.checked.prog (w.forCall tape i) .any w.heap.size f i ∧
      (OpenSpec.ofChange s).preRow enc Tryz.checked.prog fn conds false laid (w.forCall tape i).memory i.args ∧ ({} : Assume).holds Tryz.checked.prog (lone (Frame.enter Tryz.checked.prog f i.args .normal) [] (w.forCall tape i)) := by
  obtain ⟨w, tape, i, h1, h2, h3, h4, ⟨⟨h5, h6⟩, h7⟩, h8⟩ := ChangeSpec.witness_shaped (C := Tryz.checked) (X := fun w _ => laidMetH Tryz.prog laid w) false (World.laidAll Tryz.prog os laid) args 8 (World.laidAll_os _ _ _) hsh hok hpre hsz hx
  exact ⟨w, tape, i, h1, h2, h3, h4, ⟨⟨h5, h6⟩, h7⟩, h8⟩

theorem laid_met {os : Os} (args : Array Value) : laidMetH Tryz.prog laidList ((World.laidAll Tryz.prog os laidList).forCall (fun _ _ => 0) ⟨#[], args, []⟩).memory := by
  rw [MakeChecks.laidMetH_plain _ _ _ (by kernel_rfl)]
  exact laidMet_laidAll _ (by kernel_rfl) (by kernel_rfl)
end Go.Proofs.YtpokdihnimlgkaaGreatDoor
