/- Lemmas for the law: QZ, QIt, QZs, QRi, P, Xo, Tg. -/
import Derived.Test.YtgcbfggoddkhnaaGreatDoorM01
import Derived.Test.YtgcbfggoddkhnaaGreatDoorM03
import Derived.Test.YtgcbfggoddkhnaaGreatDoorM05
import Derived.Lib.Join
import Derived.Lib.ItoaLen
import Derived.Shelf.Spec.SlicesGrow
import Derived.Test.YtgcbfggoddkhnaaGreatDoorProg
import Derived.Test.YtgcbfggoddkhnaaGreatDoorM02
import Derived.Laws.AppendOwnNone
import Derived.Test.YtgcbfggoddkhnaaGreatDoorRows
import Derived.Test.YtgcbfggoddkhnaaGreatDoorM04
import Derived.Deep.SlicePairs
import Derived.ProofKit
import Derived.OpenShut
import Derived.SliceStrings
import Derived.ChangeMaps5
import Derived.LaidMore
import Derived.Lay
import Derived.MakeChecks
import Derived.ChangeOld
import Derived.Shelf.Vars
import Derived.Stop.LaidErr
import Derived.Stop.Joined
import Derived.Lib.LaidTab
import Derived.Deep.DeepHandedRow
import Derived.SevenTiedAt
namespace Go.Proofs.YtgcbfggoddkhnaaGreatDoor.Pa
open Go.RowKit
def ints (p : List Nat) : List Int := p.map fun u : Nat => (u : Int)
theorem ints_length (p : List Nat) : (ints p).length = p.length := by simp [ints]
def WideZ (zs : List Int) : Prop := ∀ z ∈ zs, -9223372036854775808 ≤ z ∧ z ≤ 9223372036854775807
def PathOk (zs : List Int) : Prop := zs.length ≤ 6 ∧ ∀ z ∈ zs, 0 ≤ z ∧ z ≤ 1048576
instance (zs : List Int) : Decidable (PathOk zs) := inferInstanceAs (Decidable (_ ∧ _))
theorem PathOk.wide {zs : List Int} (h : PathOk zs) : WideZ zs := fun z hz => by
 have := h.2 z hz
 omega
theorem WideZ.take {zs : List Int} (h : WideZ zs) (n : Nat) : WideZ (zs.take n) := fun z hz => h z (List.mem_of_mem_take hz)
def zText (zs : List Int) : List UInt8 := Lib.join (zs.map Lib.itoa) [46]
theorem join_dot : ∀ ps : List (List UInt8), Lib.join ps [46] = joinDot ps
 | [] => rfl
 | [x] => Lib.join_one x _
 | x :: y :: r => by
  have ih := join_dot (y :: r)
  rw [Lib.join_cons] at ih ⊢
  simp only [joinDot]
  rw [← ih]
  simp [Lib.joinTail]
theorem zText_ints (p : List Nat) : zText (ints p) = pathText p := by
 unfold zText ints pathText
 rw [join_dot, List.map_map]
 exact congrArg joinDot (List.map_congr_left fun u _ => itoa_nat u)
theorem ok_nats {zs : List Int} (h : PathOk zs) : ∃ p, FitsP p ∧ zs = ints p := by
 refine ⟨zs.map Int.toNat, ⟨by simpa using h.1, fun u hu => ?_⟩, ?_⟩
 · obtain ⟨z, hz, rfl⟩ := List.mem_map.1 hu
   have := h.2 z hz
   omega
 · unfold ints
   rw [List.map_map]
   refine (List.map_id zs).symm.trans (List.map_congr_left fun z hz => ?_)
   have := h.2 z hz
   simp only [Function.comp_def, id]
   omega
def IsPath (s : List UInt8) (zs : List Int) : Prop := PathOk zs ∧ s = zText zs
theorem IsPath.one {s : List UInt8} {a b : List Int} (h : IsPath s a) (h' : IsPath s b) : a = b := by
 obtain ⟨p, hp, rfl⟩ := ok_nats h.1
 obtain ⟨q, hq, rfl⟩ := ok_nats h'.1
 have := h.2.symm.trans h'.2
 rw [zText_ints, zText_ints] at this
 rw [path_inj this]
theorem isPath_nil : IsPath [] [] := ⟨⟨by simp, by simp⟩, rfl⟩
def Each (f : List UInt8 → Option Int) (ps : List (List UInt8)) (zs : List Int) : Prop := ps.map f = zs.map some
theorem Each.snoc {f : List UInt8 → Option Int} {ps : List (List UInt8)} {zs : List Int} (h : Each f ps zs) {t : List UInt8} {z : Int} (ht : f t = some z) : Each f (ps ++ [t]) (zs ++ [z]) := by
 unfold Each at h ⊢
 rw [List.map_append, List.map_append, h]
 simp [ht]
theorem Each.length {f : List UInt8 → Option Int} {ps : List (List UInt8)} {zs : List Int} (h : Each f ps zs) : ps.length = zs.length := by
 have := congrArg List.length h
 simpa using this
def Right1 (f : List UInt8 → Option Int) : Prop := ∀ u : Nat, u ≤ 1048576 → f (Lib.decDigits u) = some (u : Int)
theorem each_ints {f : List UInt8 → Option Int} (hf : Right1 f) {p : List Nat} (hp : FitsP p) {zs : List Int} (h : Each f (p.map Lib.decDigits) zs) : zs = ints p := by
 unfold Each at h
 have e : (p.map Lib.decDigits).map f = (ints p).map some := by
  unfold ints
  rw [List.map_map, List.map_map]
  exact List.map_congr_left fun u hu => hf u (hp.2 u hu)
 rw [e] at h
 exact ((List.map_inj_right (fun _ _ h => Option.some.inj h)).1 h).symm
theorem isPath_parts {s : List UInt8} {us : List Int} (h : IsPath s us) (hs : s ≠ []) : ∃ p, FitsP p ∧ us = ints p ∧ split s = p.map Lib.decDigits := by
 obtain ⟨p, hp, rfl⟩ := ok_nats h.1
 have h2 := h.2
 rw [zText_ints] at h2
 have hne : p ≠ [] := fun e => by subst e; exact hs h2
 exact ⟨p, hp, rfl, by rw [h2, split_path hne]⟩
theorem parse_one {f : List UInt8 → Option Int} (hf : Right1 f) {s : List UInt8} (hs : s ≠ []) {zs us : List Int} (h : Each f (split s) zs) (hu : IsPath s us) : us = zs := by
 obtain ⟨p, hp, rfl, he⟩ := isPath_parts hu hs
 rw [he] at h
 exact (each_ints hf hp h).symm
theorem parse_no {f : List UInt8 → Option Int} (hf : Right1 f) {s : List UInt8} (hs : s ≠ []) {zs : List Int} (h : Each f (split s) zs) (hn : ¬ (PathOk zs ∧ zText zs = s)) : ∀ us, ¬ IsPath s us := fun us hu => by
 have e := parse_one hf hs h hu
 subst e
 exact hn ⟨hu.1, hu.2.symm⟩
theorem prefix_snoc {pre : List (List UInt8)} {x : List UInt8} {us : List Nat} (h : pre ++ [x] <+: us.map Lib.decDigits) : (∃ u ∈ us, x = Lib.decDigits u) ∧ pre.length < us.length := by
 obtain ⟨r, hr⟩ := h
 have hx : x ∈ us.map Lib.decDigits := by rw [← hr]; simp
 obtain ⟨u, hu, rfl⟩ := List.mem_map.1 hx
 have := congrArg List.length hr
 simp at this
 exact ⟨⟨u, hu, rfl⟩, by omega⟩
theorem parse_stop {f : List UInt8 → Option Int} (hf : Right1 f) {s : List UInt8} (hs : s ≠ []) {pre : List (List UInt8)} {x : List UInt8} (h : pre ++ [x] <+: split s) (hx : f x = none ∨ pre.length = 6) : ∀ us, ¬ IsPath s us := fun us hu => by
 obtain ⟨p, hp, rfl, he⟩ := isPath_parts hu hs
 rw [he] at h
 obtain ⟨⟨u, hu, rfl⟩, hl⟩ := prefix_snoc h
 rcases hx with hx | hx
 · rw [hf u (hp.2 u hu)] at hx
   cases hx
 · have := hp.1
   omega
def atoiOf (t : List UInt8) : Option Int :=
 match Lib.atoiAll t with
 | .ok v => some v
 | _ => none
theorem atoiOf_right : Right1 atoiOf := fun u hu => by
 unfold atoiOf
 rw [atoi_dec hu]
theorem atoiOf_ok {t : List UInt8} {v : Int} (h : Lib.atoiAll t = .ok v) : atoiOf t = some v := by
 unfold atoiOf
 rw [h]
theorem atoiOf_no {t : List UInt8} (h : ∀ v, Lib.atoiAll t ≠ .ok v) : atoiOf t = none := by
 unfold atoiOf
 split
 · exact absurd ‹_› (h _)
 · rfl
def decOf (t : List UInt8) : Option Int := (Lib.decFrom 0 t).map fun n : Nat => (n : Int)
theorem zText_nil : zText [] = [] := rfl
theorem lens_le (M : Nat) : ∀ xs : List (List UInt8), (∀ x ∈ xs, x.length ≤ M) → Lib.lens xs ≤ xs.length * M
 | [], _ => by simp [Lib.lens]
 | x :: r, h => by
  have h1 := lens_le M r fun y hy => h y (List.mem_cons_of_mem _ hy)
  have h2 := h x (by simp)
  have e : Lib.lens (x :: r) = x.length + Lib.lens r := by simp [Lib.lens]
  rw [e, List.length_cons, Nat.succ_mul]
  omega
theorem zText_len {zs : List Int} (hw : WideZ zs) : (zText zs).length ≤ 22 * zs.length := by
 cases zs with
 | nil => simp [zText, Lib.join_nil]
 | cons x r =>
  unfold zText
  rw [List.map_cons, Lib.join_length]
  have h1 := lens_le 21 (Lib.itoa x :: r.map Lib.itoa) (fun y hy => by
   rw [← List.map_cons] at hy
   obtain ⟨e, he, rfl⟩ := List.mem_map.1 hy
   exact Lib.itoa_length_le e (hw e he).1 (hw e he).2)
  simp at h1 ⊢
  omega
def cmpI (a b : Int) : Int := Lib.compareInt a b
theorem tot_cmpI : Tot cmpI where
 one x y := by
  unfold cmpI Lib.compareInt
  split
  · exact .inl rfl
  · split
    · exact .inr (.inr rfl)
    · exact .inr (.inl rfl)
 neg x y := by
  unfold cmpI Lib.compareInt
  by_cases h1 : x < y
  · rw [if_pos h1, if_neg (by omega), if_pos (by omega)]
    rfl
  · by_cases h2 : y < x
    · rw [if_pos h2, if_neg h1, if_pos (by omega)]
    · rw [if_neg h2, if_neg (by omega), if_neg h1, if_neg (by omega)]
      rfl
 eq x y := by
  unfold cmpI Lib.compareInt
  constructor
  · intro h
    split at h
    · omega
    · split at h
      · omega
      · omega
  · rintro rfl
    rw [if_neg (by omega), if_neg (by omega)]
 trans x y z := by
  unfold cmpI Lib.compareInt
  intro h1 h2
  split at h1
  · split at h2
    · rw [if_pos (by omega)]; omega
    · split at h2
      · omega
      · rw [if_pos (by omega)]; omega
  · split at h1
    · omega
    · split at h2
      · rw [if_pos (by omega)]; omega
      · split at h2
        · omega
        · rw [if_neg (by omega), if_neg (by omega)]; omega
def cmpZ (p q : List Int) : Int := lex cmpI p q
theorem tot_cmpZ : Tot cmpZ := tot_cmpI.lex
def BelowP (p q : List Int) : Prop := q.length < p.length ∧ p.take q.length = q
instance (p q : List Int) : Decidable (BelowP p q) := inferInstanceAs (Decidable (_ ∧ _))
noncomputable def numAt (l : List Nat) (most : Int) : Option (Nat × List Nat) :=
 open Classical in if h : ∃ x : Nat × List Nat, l = Tp.enc x.1 ++ x.2 ∧ (x.1 : Int) ≤ most ∧ x.1 < 9223372036854775808 then some h.choose else none
theorem numAt_some {l : List Nat} {most : Int} {n : Nat} {r : List Nat} (h : l = Tp.enc n ++ r) (h1 : (n : Int) ≤ most) (h2 : n < 9223372036854775808) : numAt l most = some (n, r) := by
 have hx : ∃ x : Nat × List Nat, l = Tp.enc x.1 ++ x.2 ∧ (x.1 : Int) ≤ most ∧ x.1 < 9223372036854775808 := ⟨(n, r), h, h1, h2⟩
 unfold numAt
 rw [dif_pos hx]
 have hc := hx.choose_spec
 have := Tp.enc_prefix (hc.1.symm.trans h)
 congr 1
 exact Prod.ext this.1 this.2
theorem numAt_none {l : List Nat} {most : Int} (h : Tp.NoNum l most) : numAt l most = none := by
 unfold numAt
 rw [dif_neg]
 rintro ⟨⟨n, r⟩, h1, h2, h3⟩
 have := h n r h1 h3
 simp at h2
 omega
abbrev RdSt : Type := List Int × List Nat × Bool
noncomputable def rdStep (s : RdSt) : RdSt :=
 if s.2.2 then
  match numAt s.2.1 1048576 with
  | some x => (s.1 ++ [(x.1 : Int)], x.2, true)
  | none => (s.1 ++ [0], s.2.1, false)
 else (s.1 ++ [0], s.2.1, false)
noncomputable def rd : Nat → RdSt → RdSt
 | 0, s => s
 | m + 1, s => rdStep (rd m s)
noncomputable def rdAll (l : List Nat) : RdSt :=
 match numAt l 6 with
 | some x => rd x.1 ([], x.2, true)
 | none => ([], l, false)
def encZ (z : Int) : List Nat := if 0 ≤ z ∧ z ≤ 4611686018427387903 then Tp.enc z.toNat else []
def zBytes (zs : List Int) : List Nat := Tp.enc zs.length ++ zs.flatMap encZ
theorem encZ_len (z : Int) : (encZ z).length ≤ 9 := by
 unfold encZ
 split
 · exact Tp.enc_nine (by omega)
 · simp
theorem flatZ_len : ∀ zs : List Int, (zs.flatMap encZ).length ≤ 9 * zs.length
 | [] => by simp
 | z :: r => by
  have := flatZ_len r
  have := encZ_len z
  rw [List.flatMap_cons, List.length_append, List.length_cons]
  omega
end Go.Proofs.YtgcbfggoddkhnaaGreatDoor.Pa
namespace Go.Proofs
open Go.Shelf
def Tryz.growZ_ren : Go.Shelf.Ren := ⟨fun | 4 => 157 | n => n, fun | 22 => 43 | 25 => 3 | 3 => 3 | 4 => 4 | 9 => 9 | 20 => 20 | 0 => 0 | n => n, fun | n => n⟩
theorem Tryz.growZ : Go.Proofs.Lays8.n4 Tryz.prog Tryz.growZ_ren := {
 mixed := by kernel_rfl
 f4 := ⟨Tryz.f157.name, by decide, Tryz.func157.trans (congrArg some (by kernel_rfl))⟩
 t0 := Tryz.underlying0
 a0 := Tryz.isAgg0
 z0 := Tryz.sizeOf0
 v0 := Tryz.zeroValue0
 t3 := Tryz.underlying3
 a3 := Tryz.isAgg3
 z3 := Tryz.sizeOf3
 v3 := Tryz.zeroValue3
 t4 := Tryz.underlying4
 a4 := Tryz.isAgg4
 z4 := Tryz.sizeOf4
 v4 := Tryz.zeroValue4
 t9 := Tryz.underlying9
 a9 := Tryz.isAgg9
 z9 := Tryz.sizeOf9
 v9 := Tryz.zeroValue9
 t20 := Tryz.underlying20
 a20 := Tryz.isAgg20
 z20 := Tryz.sizeOf20
 v20 := Tryz.zeroValue20
 t22 := Tryz.underlying43
 a22 := Tryz.isAgg43
 z22 := Tryz.sizeOf43
 v22 := Tryz.zeroValue43 }
end Go.Proofs
namespace Go.Proofs.YtgcbfggoddkhnaaGreatDoor.Pa
open Go.RowKit Go.Shelf
def Zs (w : World) (B : Nat) (A : Option Addr) (l : List Int) : Prop :=
 0 < l.length → ∃ b o, A = some ⟨b, o, none⟩ ∧ b < B ∧ ∀ (k : Nat) (x : Int), l[k]? = some x → w.cell? ⟨b, o + k, none⟩ = some (.int .i64 x)
theorem Zs.below {w w' : World} {B : Nat} {A : Option Addr} {l : List Int} (h : Zs w B A l) (hb : Below B w w') : Zs w' B A l := fun hp => by
 obtain ⟨b, o, hA, hlt, hc⟩ := h hp
 exact ⟨b, o, hA, hlt, fun k c hk => (hb.cell (p := ⟨b, o + k, none⟩) hlt).trans (hc k c hk)⟩
theorem Zs.more {w : World} {B B' : Nat} {A : Option Addr} {l : List Int} (h : Zs w B A l) (hB : B ≤ B') : Zs w B' A l := fun hp => by
 obtain ⟨b, o, hA, hlt, hc⟩ := h hp
 exact ⟨b, o, hA, by omega, hc⟩
def zCellsOf (R : List Int) : List Value := R.map fun x => Value.int .i64 x
def ZRow (w : World) (B : Nat) (v : Value) (R : List Int) : Prop := w.ownsRow B 3 1 v R.length (zCellsOf R)
theorem ZRow.below {w w' : World} {B : Nat} {v : Value} {R : List Int} (h : ZRow w B v R) (hb : Below w.heap.size w w') : ZRow w' B v R :=
 World.ownsRow.kept (row := Option.none) h (grown_of_below hb) (by cases v.ownBlock <;> simp)
theorem ZRow.slice {w : World} {B : Nat} {v : Value} {R : List Int} (h : ZRow w B v R) : ∃ A c, v = .slice A R.length c := by
 have h0 : w.ownsRow B 3 1 v R.length (zCellsOf R) := h
 rcases h0.2 with ⟨rfl, he⟩ | ⟨g, cap, cur, rfl, _⟩
 · exact ⟨none, 0, by rw [he]⟩
 · exact ⟨_, _, rfl⟩
theorem ZRow.zs {w : World} {B : Nat} {v : Value} {R : List Int} (h : ZRow w B v R) : ∃ A c, v = .slice A R.length c ∧ Zs w w.heap.size A R := by
 have h0 : w.ownsRow B 3 1 v R.length (zCellsOf R) := h
 rcases h0.2 with ⟨rfl, he⟩ | ⟨g, cap, cur, rfl, hb, hh, hcc⟩
 · exact ⟨none, 0, by rw [he], fun h => by omega⟩
 · refine ⟨_, cap, rfl, fun _ => ⟨g, 0, rfl, (h0.lt g rfl).2, fun k x hk => ?_⟩⟩
   have := h0.cells (g := g) rfl k (.int .i64 x) (by simp [zCellsOf, hk])
   rwa [Go.WideShapes.add_plain] at this
theorem Tryz.info3 : (Tryz.prog.info? 3).map (fun i => (i.zero, i.size, i.bytes)) = some (some (.int .i64 0), 1, 8) := by kernel_rfl
theorem wpList_append_z {w : World} {ops : Array Oper} {rest : List Oper} {o : Oper} {a : Act} {Q : Exit → Act → World → Prop} (hgd : o.guard = none) (s x : Operand)
  (ho : o.op = .call { callee := .builtin .append, args := #[s, x], argTypes := #[43, 43] }) (base : Nat) (v : Value) (R : List Int) (hs : a.eval s = v)
  (hown : ZRow w base v R) (ad : Addr) (u : Int) (hxe : a.eval x = .slice (some ad) 1 1) (hc : ∀ j y, [Value.int .i64 u][j]? = some y → w.cell? (ad.add j) = some y)
  (hn : R.length + 1 ≤ 100000001) (hbase : base ≤ w.heap.size)
  (h : ∀ v' w', ZRow w' base v' (R ++ [u]) → Below base w w' → wpList Tryz.prog ops Q rest (a.put o.dst v') w') : wpList Tryz.prog ops Q (o :: rest) a w := by
 obtain ⟨i0, hi, hz0, hz1, hz2⟩ := info_parts Tryz.info3
 refine wpList_append_own w hgd s x 43 ho base 3 i0 _ 1 8 Tryz.underlying43 hi hz0 hz1 hz2 rfl (by decide) v R.length _ hs hown ad 1 1 [.int .i64 u] hxe rfl hc (by simp [Value.oneCell']) (by unfold maxLen; omega) (by omega) hbase ?_
 intro v' w' h1 h2 _
 refine h v' w' (by unfold ZRow zCellsOf; rw [List.map_append, List.length_append]; exact h1) ((Below.refl base w).grown h2 hbase fun k e => ?_)
 exact (World.ownsRow.lt hown k e).1
def EqZRel (w : World) (l l' : List Int) (k : Nat) (i : Value) (wr : World) : Prop :=
 ∃ m, m + k = l.length ∧ i = .int .i64 (m : Int) ∧ l.take m = l'.take m ∧ Below w.heap.size w wr
theorem Zs.none {w : World} {B : Nat} {l : List Int} (h : Zs w B none l) : l = [] := by
 cases l with
 | nil => rfl
 | cons x r => obtain ⟨b, o, hA, _⟩ := h (by simp); cases hA
theorem zCells_get {l : List Int} {j : Nat} {u : Value} (h : (zCellsOf l)[j]? = some u) : ∃ x, l[j]? = some x ∧ u = .int .i64 x := by
 simp [zCellsOf] at h
 obtain ⟨x, h1, h2⟩ := h
 exact ⟨x, h1, h2.symm⟩
theorem zCells_one (l : List Int) : ∀ u ∈ zCellsOf l, u.oneCell' = true := by
 intro u hu
 simp [zCellsOf] at hu
 obtain ⟨x, _, rfl⟩ := hu
 rfl
theorem Zs.cells {w : World} {B : Nat} {a : Addr} {l : List Int} (h : Zs w B (some a) l) : ∀ j u, (zCellsOf l)[j]? = some u → w.cell? (a.add j) = some u := by
 intro j u hu
 obtain ⟨x, hk, rfl⟩ := zCells_get hu
 have hp : 0 < l.length := by
  have := (List.getElem?_eq_some_iff.1 hk).1
  omega
 obtain ⟨b, o, hA, _, hc⟩ := h hp
 injection hA with hA
 subst hA
 rw [Go.WideShapes.add_plain]
 exact hc j x hk
theorem wpList_append_zs {w : World} {ops : Array Oper} {rest : List Oper} {o : Oper} {a : Act} {Q : Exit → Act → World → Prop} (hgd : o.guard = none) (s x : Operand)
  (ho : o.op = .call { callee := .builtin .append, args := #[s, x], argTypes := #[43, 43] }) (base : Nat) (v : Value) (ys : List Int) (hs : a.eval s = v)
  (hown : ZRow w base v ys) (B : Nat) (A : Option Addr) (c : Nat) (xs : List Int) (hxe : a.eval x = .slice A xs.length c) (hx : Zs w B A xs) (hc : A = none → c = 0)
  (hn : ys.length + xs.length ≤ 100000001) (hbase : base ≤ w.heap.size)
  (h : ∀ v' w', ZRow w' base v' (ys ++ xs) → Below base w w' → wpList Tryz.prog ops Q rest (a.put o.dst v') w') : wpList Tryz.prog ops Q (o :: rest) a w := by
 obtain ⟨i0, hi, hz0, hz1, hz2⟩ := info_parts Tryz.info3
 cases A with
 | none =>
  have hx0 := hx.none
  subst hx0
  rw [hc rfl] at hxe
  exact wpList_append_own_none hgd s x 43 ho base 3 i0 1 Tryz.underlying43 hi v ys.length _ hs hown hxe (h v w (by simpa using hown) (Below.refl _ _))
 | some ad =>
  refine wpList_append_own w hgd s x 43 ho base 3 i0 _ 1 8 Tryz.underlying43 hi hz0 hz1 hz2 rfl (by decide) v ys.length _ hs hown ad xs.length c (zCellsOf xs) hxe (by simp [zCellsOf]) hx.cells (zCells_one xs) (by unfold maxLen; omega) (by omega) hbase ?_
  intro v' w' h1 h2 _
  refine h v' w' (by unfold ZRow zCellsOf; rw [List.map_append, List.length_append]; exact h1) ((Below.refl base w).grown h2 hbase fun k e => ?_)
  exact (World.ownsRow.lt hown k e).1
theorem growZ_any (n : Nat) (hn : n ≤ 100000001) (w : World) : Calls Tryz.prog 157 #[.slice none 0 0, .int .i64 (n : Int)] w fun e w' => ∃ v, e = .returned v ∧ ZRow w' w.heap.size v [] ∧ Below w.heap.size w w' := by
 by_cases h0 : n = 0
 · subst h0
   refine Calls.mono (show Calls Tryz.prog 157 _ _ _ from Any8.slices_Grow_room Tryz.growZ none 0 0 0 w (Nat.le_refl _) (by omega) (by omega) (Nat.le_refl _)) ?_
   rintro e w' ⟨rfl, rfl⟩
   exact ⟨_, rfl, World.ownsRow_nil _ _ _ _, Below.refl _ _⟩
 · obtain ⟨i0, hi, hz0, hz1, hz2⟩ := info_parts Tryz.info3
   refine Calls.mono (show Calls Tryz.prog 157 _ _ _ from Any8.slices_Grow_grow Tryz.growZ i0 _ hi hz0 (by rw [hz1]; omega) none 0 0 n [] w (Nat.le_refl _) (by omega) (by rw [hz2]; omega) (by omega) (by simp) (fun _ => rfl) (fun a h => by cases h)) ?_
   rintro e w' ⟨rfl, rfl⟩
   refine ⟨_, rfl, ?_, ((Below.refl _ _).drew).alloc (Nat.le_refl _) _⟩
   refine World.ownsRow_made w.drew _ _ (Nat.le_refl _) (grownCap_le_maxLen w _ _ _ (by unfold maxLen; omega)) ?_
   have hge := grownCap_ge w (0 + n) 0 3
   rw [Nat.zero_add] at hge
   have e33 : Tryz.growZ_ren.t 25 = 3 := rfl
   simp only [e33, Array.size_append, size_zeroCells, List.size_toArray, List.length_nil, Value.cells]
   simp
   omega
def twoZ (l1 l2 : List Int) : Nat → List Int
 | 0 => []
 | 1 => l1
 | _ => l1 ++ l2
def CcZRel (w : World) (l1 l2 : List Int) (k : Nat) (v i : Value) (wr : World) : Prop :=
 ∃ m, m + k = 2 ∧ i = .int .i64 (m : Int) ∧ v = .int .i64 ((twoZ l1 l2 m).length : Int) ∧ w = wr
def CcZRel2 (w : World) (l1 l2 : List Int) (k : Nat) (v i : Value) (wr : World) : Prop :=
 ∃ m, m + k = 2 ∧ i = .int .i64 (m : Int) ∧ ZRow wr w.heap.size v (twoZ l1 l2 m) ∧ Below w.heap.size w wr
def RetRowZ (w : World) (l : List Int) (e : Ending) (w' : World) : Prop := ∃ v, e = .returned v ∧ ZRow w' w.heap.size v l ∧ Below w.heap.size w w'
set_option maxRecDepth 100000 in
theorem concatZ_any {w : World} {b o : Nat} {A1 A2 : Option Addr} {c1 c2 : Nat} {l1 l2 : List Int} (k1 : w.cell? ⟨b, o, none⟩ = some (.slice A1 l1.length c1)) (k2 : w.cell? ⟨b, o + 1, none⟩ = some (.slice A2 l2.length c2)) (hb : b < w.heap.size)
  (h1 : Zs w w.heap.size A1 l1) (h2 : Zs w w.heap.size A2 l2) (n1 : A1 = none → c1 = 0) (n2 : A2 = none → c2 = 0) (hn : l1.length + l2.length ≤ 100000000) :
  Calls Tryz.prog 117 #[.slice (some ⟨b, o, none⟩) 2 2] w (RetRowZ w (l1 ++ l2)) := by
 have H1 := Lib.hid h1
 have H2 := Lib.hid h2
 have N1 := Lib.hid n1
 have N2 := Lib.hid n2
 clear h1 h2 n1 n2
 go_enter Tryz.func117, Tryz.ntmps117
 go_wp2_with fail
 go_loopg [3, 11] 2 (fun k v i wr => CcZRel w l1 l2 k v i wr)
 case atStart => exact ⟨0, rfl, rfl, rfl, rfl⟩
 case round =>
  obtain ⟨m, hmk, hi, hv, hw⟩ := hrel
  subst hi hv hw
  cases gk with
  | succ j =>
   have hm : m = 0 ∨ m = 1 := by omega
   have HM := Lib.hid hmk
   rcases hm with rfl | rfl
   · have e0 : (twoZ l1 l2 0).length = 0 := rfl
     have e1 : Hid ((twoZ l1 l2 1).length = l1.length) := rfl
     rw [e0]
     clear hmk
     go_wp2_with fail
     go_roundg j
     case measure => omega
     case rel => exact ⟨1, by have := HM.out; omega, by go_num, by rw [e1.out], rfl⟩
   · have e0 : (twoZ l1 l2 1).length = l1.length := rfl
     have e1 : Hid ((twoZ l1 l2 2).length = l1.length + l2.length) := by unfold Hid twoZ; simp
     rw [e0]
     clear hmk
     go_wp2_with fail
     go_roundg j
     case measure => omega
     case rel => exact ⟨2, by have := HM.out; omega, by go_num, by rw [e1.out]; go_num, rfl⟩
  | zero =>
   have hm2 : m = 2 := by omega
   subst hm2
   have e0 : (twoZ l1 l2 2).length = l1.length + l2.length := by unfold twoZ; simp
   rw [e0]
   have HG := Lib.hid (growZ_any (l1.length + l2.length) (by omega) w)
   clear hmk
   go_wp2_with fail
   refine HG.out.mono ?_
   rintro e w1 ⟨v1, rfl, hr1, hb1⟩
   have B1 := Lib.hid hb1
   have R1 := Lib.hid hr1
   clear hb1 hr1
   go_wp2_with fail
   go_loopg [6, 27] 2 (fun k v i wr => CcZRel2 w l1 l2 k v i wr)
   case atStart => exact ⟨0, rfl, rfl, R1.out, B1.out⟩
   case round =>
     obtain ⟨m, hmk, hi, hr, hbw⟩ := hrel
     subst hi
     have BW := Lib.hid hbw
     have RW := Lib.hid hr
     cases gk with
     | zero =>
      have hm2 : m = 2 := by omega
      subst hm2
      clear hr hbw
      go_wp2_with fail
      go_ret
      exact ⟨_, rfl, RW.out, BW.out⟩
     | succ j =>
      have hm : m = 0 ∨ m = 1 := by omega
      have HM := Lib.hid hmk
      have hsz := hbw.size
      rcases hm with rfl | rfl
      · have q1 := (hbw.cell (p := ⟨b, o, none⟩) hb).trans k1
        have hle : (twoZ l1 l2 0).length + l1.length ≤ 100000001 := by simp [twoZ]; omega
        have HE := Lib.hid (H1.out.below hbw)
        clear hmk hr hbw
        go_wp2_with (first
         | (at_builtin; refine wpList_append_zs rfl _ _ rfl w.heap.size _ _ rfl RW.out w.heap.size A1 c1 l1 rfl HE.out N1.out hle hsz ?_))
        intro v' w2 hr2 hb2
        have B2 := Lib.hid (BW.out.trans hb2)
        have R2 := Lib.hid hr2
        clear hr2 hb2
        go_wp2_with fail
        go_roundg j
        case measure => omega
        case rel => exact ⟨1, by have := HM.out; omega, by go_num, R2.out, B2.out⟩
      · have q1 := (hbw.cell (p := ⟨b, o + 1, none⟩) hb).trans k2
        have hle : (twoZ l1 l2 1).length + l2.length ≤ 100000001 := by simp [twoZ]; omega
        have HE := Lib.hid (H2.out.below hbw)
        clear hmk hr hbw
        go_wp2_with (first
         | (at_builtin; refine wpList_append_zs rfl _ _ rfl w.heap.size _ _ rfl RW.out w.heap.size A2 c2 l2 rfl HE.out N2.out hle hsz ?_))
        intro v' w2 hr2 hb2
        have B2 := Lib.hid (BW.out.trans hb2)
        have R2 := Lib.hid hr2
        clear hr2 hb2
        go_wp2_with fail
        go_roundg j
        case measure => omega
        case rel => exact ⟨2, by have := HM.out; omega, by go_num, R2.out, B2.out⟩
set_option maxRecDepth 100000 in
theorem cloneZ_any {w : World} {A : Option Addr} {c : Nat} {l : List Int} (hl : Zs w w.heap.size A l) (hc : A = none → c = 0) (hn : l.length ≤ 100000000) :
  Calls Tryz.prog 44 #[.slice A l.length c] w (RetRowZ w l) := by
 cases A with
 | none =>
  have hl0 := hl.none
  subst hl0
  have hc0 := hc rfl
  subst hc0
  clear hc hl
  have hq : ∀ w : World, (binOp .eql 43 (.slice none 0 0) (.slice none 0 0)).run Tryz.prog w = .ok (.bool true) w := fun _ => rfl
  go_enter Tryz.func44, Tryz.ntmps44
  go_wp2_with fail
  go_ret
  exact ⟨_, rfl, World.ownsRow_nil _ _ _ _, Below.refl _ _⟩
 | some a =>
  have HL := Lib.hid hl
  clear hl hc
  have hq : ∀ w : World, (binOp .eql 43 (.slice (some a) l.length c) (.slice none 0 0)).run Tryz.prog w = .ok (.bool false) w := fun _ => rfl
  have hle : ([] : List Int).length + l.length ≤ 100000001 := by simp; omega
  have hr0 : Hid (ZRow (w.alloc (.cells #[] 3)) w.heap.size (.slice (some ⟨w.heap.size, 0, none⟩) 0 0) []) := World.ownsRow_lit (base := w.heap.size) w #[] 0 (Nat.le_refl _) (by unfold maxLen; omega) rfl
  have hal : Hid (Below w.heap.size w (w.alloc (.cells #[] 3))) := (Below.refl _ _).alloc (Nat.le_refl _) _
  have hsz : w.heap.size ≤ (w.alloc (.cells #[] 3)).heap.size := by simp
  go_enter Tryz.func44, Tryz.ntmps44
  go_wp2_with (first
   | (at_builtin; refine wpList_append_zs rfl _ _ rfl w.heap.size _ [] rfl hr0.out w.heap.size (some a) c l rfl (HL.out.below hal.out) (fun h => by cases h) hle hsz ?_))
  intro v' w1 hown hb1
  have B1 : Hid (Below w.heap.size w w1) := hal.out.trans hb1
  have R1 := Lib.hid hown
  clear hown hb1
  go_wp2_with fail
  go_ret
  exact ⟨_, rfl, R1.out, B1.out⟩
end Go.Proofs.YtgcbfggoddkhnaaGreatDoor.Pa
namespace Go.Proofs.YtgcbfggoddkhnaaGreatDoor.Pa
open Go.RowKit
structure PL (w : World) (A : Option Addr) (c : Nat) (l : List Int) : Prop where
 zs : Zs w w.heap.size A l
 nil : A = none → c = 0
 cap : l.length ≤ c
 wide : WideZ l
theorem PL.on {w w' : World} {A : Option Addr} {c : Nat} {zs : List Int} (h : PL w A c zs) (hb : Below w.heap.size w w') : PL w' A c zs :=
 ⟨(h.zs.below hb).more hb.size, h.nil, h.cap, h.wide⟩
theorem pl_nil (w : World) : PL w none 0 [] := ⟨fun h => absurd h (by simp), fun _ => rfl, by simp, fun _ h => by simp at h⟩
theorem ZRow.pl {w : World} {B : Nat} {v : Value} {zs : List Int} (h : ZRow w B v zs) (hw : WideZ zs) : ∃ A c, v = .slice A zs.length c ∧ PL w A c zs := by
 obtain ⟨A, c, hv, hz⟩ := h.zs
 have h0 : w.ownsRow B 3 1 v zs.length (zCellsOf zs) := h
 subst hv
 refine ⟨A, c, rfl, hz, ?_, ?_, hw⟩
 · rcases h0.2 with ⟨hx, _⟩ | ⟨g, cap, cur, hx, _⟩
   · injection hx with _ _ h3; intro _; exact h3
   · injection hx with h1 _ _; intro e; rw [e] at h1; cases h1
 · rcases h0.2 with ⟨hx, he⟩ | ⟨g, cap, cur, hx, _, _, hle, _⟩
   · omega
   · injection hx with _ _ h3; omega
theorem take_snoc {α : Type} {l : List α} {m : Nat} {x : α} (h : l[m]? = some x) : l.take (m + 1) = l.take m ++ [x] := by rw [List.take_add_one, h]; rfl
def OkTo (zs : List Int) (m : Nat) : Prop := ∀ z ∈ zs.take m, 0 ≤ z ∧ z ≤ 1048576
theorem okTo_step {zs : List Int} {m : Nat} {z : Int} (h : OkTo zs m) (hx : zs[m]? = some z) (h0 : 0 ≤ z) (h1 : z ≤ 1048576) : OkTo zs (m + 1) := fun y hy => by
 rw [take_snoc hx] at hy
 rcases List.mem_append.1 hy with h' | h'
 · exact h y h'
 · simp at h'; subst h'; exact ⟨h0, h1⟩
def RiRel (w : World) (zs : List Int) (k : Nat) (i : Value) (wr : World) : Prop := ∃ m, m + k = zs.length ∧ i = .int .i64 (m : Int) ∧ OkTo zs m ∧ w = wr
set_option maxRecDepth 100000 in
theorem right_any {w : World} {A : Option Addr} {c : Nat} {zs : List Int} (h : Zs w w.heap.size A zs) :
   Calls Tryz.prog 106 #[.slice A zs.length c] w fun e w' => e = .returned (.bool (decide (PathOk zs))) ∧ w = w' := by
 have HZ := Lib.hid h
 clear h
 by_cases hl : 6 < zs.length
 · have HD : Hid (decide (PathOk zs) = false) := decide_eq_false fun h => by have := h.1; omega
   go_enter Tryz.func106, Tryz.ntmps106
   go_wp2_with fail
   go_ret
   exact ⟨by rw [HD.out] <;> rfl, rfl⟩
 · go_enter Tryz.func106, Tryz.ntmps106
   go_wp2_with fail
   go_loopg [10] zs.length (fun k i wr => RiRel w zs k i wr)
   case atStart => exact ⟨0, by simp, rfl, fun z hz => by simp at hz, rfl⟩
   case round =>
    obtain ⟨m, hmk, hi, hok, hw⟩ := hrel
    subst hi hw
    have HO := Lib.hid hok
    clear hok
    cases gk with
    | zero =>
     have hge : zs.length ≤ m := by omega
     have HD : Hid (decide (PathOk zs) = true) := decide_eq_true ⟨by omega, fun z hz => HO.out z (by rw [List.take_of_length_le hge]; exact hz)⟩
     go_wp2_with fail
     go_ret
     exact ⟨by rw [HD.out] <;> rfl, rfl⟩
    | succ j =>
     have hm : m < zs.length := by omega
     obtain ⟨z, hx⟩ : ∃ x, zs[m]? = some x := ⟨_, List.getElem?_eq_getElem hm⟩
     obtain ⟨b, o, rfl, hlt, hcells⟩ := HZ.out (by omega)
     have c1 := hcells m z hx
     have HM := Lib.hid hmk
     have HX := Lib.hid hx
     clear hcells hx hmk
     by_cases h0 : z < 0
     · have HD : Hid (decide (PathOk zs) = false) := decide_eq_false fun h => by have := h.2 z (List.mem_of_getElem? HX.out); omega
       go_wp2_with fail
       go_ret
       exact ⟨by rw [HD.out] <;> rfl, rfl⟩
     · by_cases h1 : 1048576 < z
       · have HD : Hid (decide (PathOk zs) = false) := decide_eq_false fun h => by have := h.2 z (List.mem_of_getElem? HX.out); omega
         go_wp2_with fail
         go_ret
         exact ⟨by rw [HD.out] <;> rfl, rfl⟩
       · have HS := Lib.hid (okTo_step HO.out HX.out (by omega) (by omega))
         go_wp2_with fail
         go_roundg j
         case measure => omega
         case rel => exact ⟨m + 1, by have := HM.out; omega, by go_num, HS.out, rfl⟩
set_option maxRecDepth 100000 in
theorem refRight_any {w : World} {A : Option Addr} {c : Nat} {zs : List Int} (h : Zs w w.heap.size A zs) (hn : zs.length ≤ 100000000) :
  Calls Tryz.prog 67 #[.slice A zs.length c] w fun e w' => e = .returned (.bool (decide (PathOk zs))) ∧ w = w' := by
 have HZ := Lib.hid h
 clear h
 go_enter Tryz.func67, Tryz.ntmps67
 go_wp2_with fail
 go_loopg [7] zs.length (fun k i wr => RiRel w zs k i wr)
 case atStart => exact ⟨0, by simp, rfl, fun z hz => by simp at hz, rfl⟩
 case round =>
  obtain ⟨m, hmk, hi, hok, hw⟩ := hrel
  subst hi hw
  have HO := Lib.hid hok
  clear hok
  cases gk with
  | zero =>
   have hge : zs.length ≤ m := by omega
   have HD : Hid (decide (PathOk zs) = decide ((zs.length : Int) ≤ 6)) := by
     unfold Hid
     refine decide_eq_decide.2 ⟨fun h => by have := h.1; omega, fun h => ⟨by omega, fun z hz => HO.out z (by rw [List.take_of_length_le hge]; exact hz)⟩⟩
   go_wp2_with fail
   go_ret
   exact ⟨by rw [HD.out] <;> rfl, rfl⟩
  | succ j =>
   have hm : m < zs.length := by omega
   obtain ⟨z, hx⟩ : ∃ x, zs[m]? = some x := ⟨_, List.getElem?_eq_getElem hm⟩
   obtain ⟨b, o, rfl, hlt, hcells⟩ := HZ.out (by omega)
   have c1 := hcells m z hx
   have HM := Lib.hid hmk
   have HX := Lib.hid hx
   clear hcells hx hmk
   by_cases h0 : z < 0
   · have HD : Hid (decide (PathOk zs) = false) := decide_eq_false fun h => by have := h.2 z (List.mem_of_getElem? HX.out); omega
     go_wp2_with fail
     go_ret
     exact ⟨by rw [HD.out] <;> rfl, rfl⟩
   · by_cases h1 : 1048576 < z
     · have HD : Hid (decide (PathOk zs) = false) := decide_eq_false fun h => by have := h.2 z (List.mem_of_getElem? HX.out); omega
       go_wp2_with fail
       go_ret
       exact ⟨by rw [HD.out] <;> rfl, rfl⟩
     · have HS := Lib.hid (okTo_step HO.out HX.out (by omega) (by omega))
       go_wp2_with fail
       go_roundg j
       case measure => omega
       case rel => exact ⟨m + 1, by have := HM.out; omega, by go_num, HS.out, rfl⟩
end Go.Proofs.YtgcbfggoddkhnaaGreatDoor.Pa
namespace Go.Proofs.YtgcbfggoddkhnaaGreatDoor
open Go.ChangeShapes Go.WideShapes Go.ChangeAt Go.RowKit
theorem Tryz.own : ownKnob Tryz.prog.godebug = none := by kernel_rfl
theorem Tryz.laidOut : laidOutB Tryz.prog = true := by kernel_rfl
theorem Tryz.cells3 : Tryz.prog.cellsOf 3 = 1 := by kernel_rfl
theorem Tryz.cells9 : Tryz.prog.cellsOf 9 = 1 := by kernel_rfl
def laidList : List (String × DataW Unit) := [("math/bits.deBruijn32tab", Rows.laid_math_bits_deBruijn32tab), ("math/bits.deBruijn64tab", Rows.laid_math_bits_deBruijn64tab), ("internal/strconv.uint64pow10", Rows.laid_internal_strconv_uint64pow10), ("unicode/utf8.acceptRanges", Rows.laid_unicode_utf8_acceptRanges), ("strconv.ErrRange", Rows.laid_strconv_ErrRange), ("strconv.ErrSyntax", Rows.laid_strconv_ErrSyntax), ("unicode/utf8.first", Rows.laid_unicode_utf8_first)]
theorem pow_data : (Rows.laid_internal_strconv_uint64pow10 : DataW Unit) = Lib.tabData .u64 Lib.pow10Tab := by kernel_rfl
theorem Tryz.glob7 : ((begin Tryz.prog (fun _ _ => 0) default).world.heap[7]?).bind Obj.row? = some (Array.replicate 64 (.int .u8 0), 277) := by kernel_rfl
theorem star : "*" ++ "errors.errorString" = "*errors.errorString" := by decide
theorem row175 (u : TypeId) (h : Tryz.prog.typeName? 3 u = some "*errors.errorString") : u = 270 :=
 typeName_ptr_named (nm := "errors.errorString") (by rw [star]; kernel_rfl) (by kernel_rfl) (by decide) u (by rw [star]; exact h)
set_option maxRecDepth 100000 in
theorem env_of {W : World} (hsh : W.ShapedOpen Tryz.prog) (h : laidMetH Tryz.prog laidList W) : Env W := by
 rw [MakeChecks.laidMetH_plain _ _ _ (by kernel_rfl)] at h
 have h3 := h.tail.tail
 have ht : Lib.TabIs Tryz.prog W "internal/strconv.uint64pow10" .u64 Lib.pow10Tab :=
  Lib.tabIs_of_head (g := 3) (t := 262) (e := 212) (n := 20) (by kernel_rfl) (by kernel_rfl) Tryz.underlying262 Tryz.underlying212 (by kernel_rfl) (by kernel_rfl) (by rw [← pow_data]; exact h3)
 have h5 := h3.tail.tail
 have h6 := h5.tail
 obtain ⟨a5, s5, hv5, _⟩ := laid_sentinel (P := Tryz.prog) (g := 2) (ti := 160) (tp := 270) (te := 272) (ts := 9) h5 (by kernel_rfl) (by kernel_rfl) Tryz.underlying160 row175 Tryz.underlying270 Tryz.underlying272 rfl rfl Tryz.underlying9 (by kernel_rfl) (by kernel_rfl)
 obtain ⟨a6, s6, hv6, _⟩ := laid_sentinel (P := Tryz.prog) (g := 1) (ti := 160) (tp := 270) (te := 272) (ts := 9) h6 (by kernel_rfl) (by kernel_rfl) Tryz.underlying160 row175 Tryz.underlying270 Tryz.underlying272 rfl rfl Tryz.underlying9 (by kernel_rfl) (by kernel_rfl)
 obtain ⟨m, hm⟩ := cell_of_shapedOpen_int (P := Tryz.prog) (g := 0) (t := 3) (zero := #[.int .i64 0]) hsh (of_decide_eq_true (by kernel_rfl)) (by kernel_rfl) rfl (by kernel_rfl) (by kernel_rfl) Tryz.underlying3
 have c7 : W.heap.size ≥ 8 := by
  obtain ⟨cs, hh, _⟩ := hsh.1 7 _ 277 (of_decide_eq_true (by kernel_rfl)) Tryz.glob7
  have := (Array.getElem?_eq_some_iff.1 hh).1
  omega
 have e5 : W.cell? ⟨2, 0, none⟩ = some (.iface 270 (.pointer (some a5))) := by simpa using World.var?_cell (P := Tryz.prog) (g := 2) (by kernel_rfl) hv5 0
 have e6 : W.cell? ⟨1, 0, none⟩ = some (.iface 270 (.pointer (some a6))) := by simpa using World.var?_cell (P := Tryz.prog) (g := 1) (by kernel_rfl) hv6 0
 exact ⟨c7, ⟨m, hm⟩, ⟨_, _, e6⟩, ⟨_, _, e5⟩, ht⟩
theorem bounds_i64 {n : Int} (h : (Lit.int .i64 n).wf = true) : -9223372036854775808 ≤ n ∧ n ≤ 9223372036854775807 := by
 have e1 : IntKind.i64.min = -9223372036854775808 := by decide
 have e2 : IntKind.i64.max = 9223372036854775807 := by decide
 simp only [Lit.wf, e1, e2, Bool.and_eq_true, decide_eq_true_eq] at h
 exact h
theorem Tryz.cells5 : Tryz.prog.cellsOf 5 = 1 := by kernel_rfl
theorem part_le {H : Type} {d : DataW H} {l : List (DataW H)} (h : d ∈ l) : Rows.uptoBulk d ≤ Rows.uptoBulkAll l := by
 induction l with
 | nil => cases h
 | cons x r ih =>
  simp only [Rows.uptoBulkAll]
  rcases List.mem_cons.1 h with e | e
  · subst e; omega
  · have := ih e; omega
theorem laid_met {os : Os} (args : Array Value) : laidMetH Tryz.prog laidList ((World.laidAll Tryz.prog os laidList).forCall (fun _ _ => 0) ⟨#[], args, []⟩).memory := by
 rw [MakeChecks.laidMetH_plain _ _ _ (by kernel_rfl)]
 exact laidMet_laidAll _ (by kernel_rfl) (by kernel_rfl)
end Go.Proofs.YtgcbfggoddkhnaaGreatDoor
namespace Go.Proofs.YtgcbfggoddkhnaaGreatDoor
open Pa
theorem dec_no_minus (u : Nat) : 45 ∉ Lib.decDigits u := fun h => absurd (dec_dig u _ h).1 (by decide)
theorem itoa_no_dot (z : Int) : 46 ∉ Lib.itoa z := by
 unfold Lib.itoa
 split
 · intro h
   rcases List.mem_cons.1 h with h | h
   · exact absurd h (by decide)
   · exact dec_no_dot _ h
 · exact dec_no_dot _
theorem itoa_ne (z : Int) : Lib.itoa z ≠ [] := by
 unfold Lib.itoa
 split
 · simp
 · exact dec_ne _
theorem itoa_inj {a b : Int} (h : Lib.itoa a = Lib.itoa b) : a = b := by
 unfold Lib.itoa at h
 split at h <;> split at h
 · injection h with _ h
   have := dec_inj h
   omega
 · exact absurd (show (45 : UInt8) ∈ Lib.decDigits b.toNat by rw [← h]; simp) (dec_no_minus _)
 · exact absurd (show (45 : UInt8) ∈ Lib.decDigits a.toNat by rw [h]; simp) (dec_no_minus _)
 · have := dec_inj h
   omega
theorem zText_ne {p : List Int} (h : p ≠ []) : zText p ≠ [] := by
 cases p with
 | nil => exact absurd rfl h
 | cons z r =>
  unfold zText
  rw [List.map_cons, Lib.join_cons]
  intro e
  exact itoa_ne z (List.append_eq_nil_iff.1 e).1
theorem zText_split {p : List Int} (h : p ≠ []) : split (zText p) = p.map Lib.itoa := by
 unfold zText
 rw [join_dot, split_join _ (by simpa using h)]
 intro x hx
 obtain ⟨z, _, rfl⟩ := List.mem_map.1 hx
 exact itoa_no_dot z
theorem zText_inj {p q : List Int} (h : zText p = zText q) : p = q := by
 by_cases hp : p = []
 · subst hp
   by_cases hq : q = []
   · exact hq.symm
   · exact absurd (h.symm.trans zText_nil) (zText_ne hq)
 · by_cases hq : q = []
   · subst hq
     exact absurd (h.trans zText_nil) (zText_ne hp)
   · have h1 := congrArg split h
     rw [zText_split hp, zText_split hq] at h1
     exact (List.map_inj_right (fun _ _ h => itoa_inj h)).1 h1
abbrev Kd := Int × Int × Int
abbrev Mp := Int × List Int × Bool
structure Ob where
 kind : Int
 lab : List Ent
 kids : List Kd
 next : Int
 bytes : List Nat
 own : List (List UInt8)
 cats : Int
 entry : List Ent
 ring : Int
 maps : List Mp
def KidOk (next : Int) (k : Kd) : Prop := (0 ≤ k.1 ∧ k.1 < next) ∧ (1 ≤ k.2.1 ∧ k.2.1 ≤ 5) ∧ 0 ≤ k.2.2 ∧ k.2.2 ≤ 1048576
instance (next : Int) (k : Kd) : Decidable (KidOk next k) := inferInstanceAs (Decidable (_ ∧ _))
def KidsOk (next : Int) (l : List Kd) : Prop := l.length ≤ 16 ∧ (∀ k ∈ l, KidOk next k) ∧ l.Pairwise fun a b => a.1 < b.1
instance (next : Int) (l : List Kd) : Decidable (KidsOk next l) := inferInstanceAs (Decidable (_ ∧ _))
def MapOk (m : Mp) : Prop := (0 ≤ m.1 ∧ m.1 ≤ 1048576) ∧ PathOk m.2.1
instance (m : Mp) : Decidable (MapOk m) := inferInstanceAs (Decidable (_ ∧ _))
def MapsOk (l : List Mp) : Prop := l.length ≤ 4 ∧ (∀ m ∈ l, MapOk m) ∧ l.Pairwise fun a b => a.1 < b.1
instance (l : List Mp) : Decidable (MapsOk l) := inferInstanceAs (Decidable (_ ∧ _))
def FieldsOk (o : Ob) : Prop :=
 (o.kind = 1 ∨ o.kids.length = 0 ∧ o.next = 0) ∧ (o.kind = 2 ∨ o.bytes.length = 0) ∧ (o.kind = 3 ∨ o.kind = 4 ∨ o.own.length = 0) ∧ (o.kind = 3 ∨ o.cats = 0) ∧ (o.kind = 4 ∨ o.entry.length = 0 ∧ o.ring = 0) ∧ (o.kind = 5 ∨ o.maps.length = 0)
instance (o : Ob) : Decidable (FieldsOk o) := inferInstanceAs (Decidable (_ ∧ _))
structure ObOk (o : Ob) : Prop where
 kind : 1 ≤ o.kind ∧ o.kind ≤ 5
 lab : RightL o.lab
 kids : KidsOk o.next o.kids
 next : 0 ≤ o.next ∧ o.next ≤ 1048577
 bytes : o.bytes.length ≤ 256
 own : OwnL o.own
 cats : 0 ≤ o.cats ∧ o.cats ≤ 65536
 entry : RightL o.entry
 ring : 0 ≤ o.ring ∧ o.ring ≤ 1048576
 maps : MapsOk o.maps
 fields : FieldsOk o
theorem obOk_iff {o : Ob} : ObOk o ↔ ((1 ≤ o.kind ∧ o.kind ≤ 5) ∧ RightL o.lab ∧ KidsOk o.next o.kids ∧ (0 ≤ o.next ∧ o.next ≤ 1048577) ∧ o.bytes.length ≤ 256 ∧ OwnL o.own ∧ (0 ≤ o.cats ∧ o.cats ≤ 65536) ∧ RightL o.entry ∧ (0 ≤ o.ring ∧ o.ring ≤ 1048576) ∧ MapsOk o.maps ∧ FieldsOk o) :=
 ⟨fun ⟨a, b, c, d, e, f, g, h, i, j, k⟩ => ⟨a, b, c, d, e, f, g, h, i, j, k⟩, fun ⟨a, b, c, d, e, f, g, h, i, j, k⟩ => ⟨a, b, c, d, e, f, g, h, i, j, k⟩⟩
instance (o : Ob) : Decidable (ObOk o) := decidable_of_iff' _ obOk_iff
def quotas : List Kd → Int
 | [] => 0
 | k :: r => k.2.2 + quotas r
theorem quotas_append (a b : List Kd) : quotas (a ++ b) = quotas a + quotas b := by
 induction a with
 | nil => simp [quotas]
 | cons x r ih => simp only [List.cons_append, quotas, ih]; omega
theorem quotas_le {n : Int} : ∀ {l : List Kd}, (∀ k ∈ l, KidOk n k) → 0 ≤ quotas l ∧ quotas l ≤ 1048576 * (l.length : Int)
 | [], _ => by simp [quotas]
 | k :: r, h => by
  have h1 := quotas_le (l := r) fun x hx => h x (List.mem_cons_of_mem _ hx)
  have h2 := (h k (by simp)).2.2
  simp only [quotas, List.length_cons]
  omega
theorem quotas_take {n : Int} {l : List Kd} (h : KidsOk n l) (m : Nat) : 0 ≤ quotas (l.take m) ∧ quotas (l.take m) ≤ 16777216 := by
 have h1 := quotas_le (l := l.take m) (n := n) fun k hk => h.2.1 k (List.mem_of_mem_take hk)
 have h2 := h.1
 have h3 : (l.take m).length ≤ l.length := by rw [List.length_take]; omega
 omega
def uses (o : Ob) : Int := 16 + (o.bytes.length : Int) + 8 * (o.own.length : Int) + 16 * (o.entry.length : Int) + 24 * (o.maps.length : Int) + quotas o.kids
theorem ObOk.uses {o : Ob} (h : ObOk o) : 16 ≤ uses o ∧ uses o ≤ 16800000 := by
 have h1 := quotas_le h.kids.2.1
 have h2 := h.kids.1
 have h3 := h.bytes
 have h4 := h.own.1
 have h5 := h.entry.1
 have h6 := h.maps.1
 unfold YtgcbfggoddkhnaaGreatDoor.uses
 omega
def kidQ : List Kd → Int → Int
 | [], _ => -1
 | k :: r, n => if k.1 = n then k.2.2 else kidQ r n
theorem kidQ_none {l : List Kd} {n : Int} (h : ∀ k ∈ l, k.1 ≠ n) : kidQ l n = -1 := by
 induction l with
 | nil => rfl
 | cons k r ih => rw [kidQ, if_neg (h k (by simp)), ih fun x hx => h x (List.mem_cons_of_mem _ hx)]
theorem kidQ_hit {l : List Kd} {n : Int} : ∀ {m : Nat} {k : Kd}, l[m]? = some k → (∀ x ∈ l.take m, x.1 ≠ n) → k.1 = n → kidQ l n = k.2.2 := by
 induction l with
 | nil => intro m k h; simp at h
 | cons x r ih =>
  intro m k h hno hk
  cases m with
  | zero => simp at h; subst h; rw [kidQ, if_pos hk]
  | succ m => rw [kidQ, if_neg (hno x (by simp)), ih (by simpa using h) (fun y hy => hno y (by simp [hy])) hk]
theorem kidQ_cases (l : List Kd) (n : Int) : (kidQ l n = -1 ∧ ∀ k ∈ l, k.1 ≠ n) ∨ ∃ k ∈ l, k.1 = n ∧ kidQ l n = k.2.2 := by
 induction l with
 | nil => exact .inl ⟨rfl, fun _ h => by cases h⟩
 | cons x r ih =>
  by_cases hx : x.1 = n
  · exact .inr ⟨x, by simp, hx, by rw [kidQ, if_pos hx]⟩
  · rw [kidQ, if_neg hx]
    rcases ih with ⟨h1, h2⟩ | ⟨k, hk, h1, h2⟩
    · refine .inl ⟨h1, fun k hk => ?_⟩
      rcases List.mem_cons.1 hk with rfl | hk
      · exact hx
      · exact h2 k hk
    · exact .inr ⟨k, List.mem_cons_of_mem _ hk, h1, h2⟩
theorem kids_uniq {n : Int} {l : List Kd} (h : KidsOk n l) {a b : Kd} (ha : a ∈ l) (hb : b ∈ l) (e : a.1 = b.1) : a = b := by
 have hp := h.2.2
 clear h
 induction l with
 | nil => cases ha
 | cons x r ih =>
  obtain ⟨h1, h2⟩ := List.pairwise_cons.1 hp
  rcases List.mem_cons.1 ha with e1 | ha2 <;> rcases List.mem_cons.1 hb with e2 | hb2
  · rw [e1, e2]
  · have := h1 b hb2; rw [← e1] at this; omega
  · have := h1 a ha2; rw [← e2] at this; omega
  · exact ih ha2 hb2 h2
def setQ (l : List Kd) (n q : Int) : List Kd := l.map fun k => if k.1 = n then (k.1, k.2.1, q) else k
def dropK (l : List Kd) (n : Int) : List Kd := l.filter fun k => !(decide (k.1 = n))
theorem dropK_mem {l : List Kd} {n : Int} {k : Kd} : k ∈ dropK l n ↔ k ∈ l ∧ k.1 ≠ n := by simp [dropK]
theorem dropK_ok {x : Int} {l : List Kd} (h : KidsOk x l) (n : Int) : KidsOk x (dropK l n) :=
 ⟨Nat.le_trans (List.length_filter_le _ _) h.1, fun k hk => h.2.1 k (dropK_mem.1 hk).1, h.2.2.filter _⟩
end Go.Proofs.YtgcbfggoddkhnaaGreatDoor
namespace Go.Proofs.YtgcbfggoddkhnaaGreatDoor.Tp
open Go.RowKit
set_option maxRecDepth 100000 in
theorem tape_text_fault {w : World} {g : Nat} {k : Option Nat} {l : List Nat} {T : TypeId} {x : Value} {most : Int} (h : TapeAt w g k l (.iface T x)) :
  Calls Tryz.prog 132 #[.pointer (some ⟨g, 0, none⟩), .int .i64 most] w fun e w' => e = .returned (.string ⟨#[]⟩) ∧ w = w' := by
 have H := Lib.hid (tape_err h)
 clear h
 go_enter Tryz.func132, Tryz.ntmps132
 go_wp2_with (go_at_call 126; refine H.out.mono ?_; rintro e w' ⟨rfl, rfl⟩)
 go_ret
 exact ⟨rfl, rfl⟩
def NoTxt (l : List Nat) (most : Int) : Prop := ∀ s r : List Nat, l = enc s.length ++ (s ++ r) → s.length < 9223372036854775808 → most < (s.length : Int)
def TTxt (w : World) (g : Nat) (k : Option Nat) (l : List Nat) (most : Int) (e : Ending) (w' : World) : Prop :=
 Kp (fun b => b = g) w w' ∧ ((∃ s r : List Nat, l = enc s.length ++ (s ++ r) ∧ (s.length : Int) ≤ most ∧ e = .returned (.string (str s)) ∧ TapeAt w' g k r .nilIface) ∨
  (NoTxt l most ∧ e = .returned (.string ⟨#[]⟩) ∧ ∃ T x, TapeAt w' g k l (.iface T x)))
set_option maxRecDepth 100000 in
theorem Row.first {w : World} {k : Option Nat} {b o c : Nat} {p r : List Nat} (h : Row w k (some ⟨b, o, none⟩) c (p ++ r)) : Bts w w.heap.size (some ⟨b, o, none⟩) p := by
 intro _
 rcases h with ⟨h, _⟩ | ⟨b', o1, hA, hk, hb, h1, h2, hc⟩
 · cases h
 · injection hA with hA
   injection hA with e1 e2
   subst e1 e2
   exact ⟨b, o, rfl, hb, fun i d hi => hc i d (by rw [List.getElem?_append_left (List.getElem?_eq_some_iff.1 hi).1]; exact hi)⟩
set_option maxRecDepth 100000 in
theorem tape_text {w : World} {g : Nat} {k : Option Nat} {l : List Nat} {most : Int} (h : TapeAt w g k l .nilIface) (hs : Sml l) (hn : l.length ≤ 90000000) :
   Calls Tryz.prog 132 #[.pointer (some ⟨g, 0, none⟩), .int .i64 most] w (TTxt w g k l most) := by
 have H20 := Lib.hid (tape_err h)
 have H14 := Lib.hid (tape_number (most := most) h hs hn)
 have hglt := h.lt
 obtain ⟨A, c, h1, h2, h3, h4, h5, h6⟩ := h
 have HR := Lib.hid h5
 have HG := Lib.hid h6
 clear h5 h6 h2 h3 h4
 obtain ⟨len, hlen⟩ : ∃ len, len = l.length := ⟨_, rfl⟩
 rw [← hlen] at h1
 have HLen := Lib.hid hlen
 clear hlen
 go_enter Tryz.func132, Tryz.ntmps132
 go_wp2_with (go_at_call 126; refine H20.out.mono ?_; rintro e w' ⟨rfl, rfl⟩)
 refine H14.out.mono ?_
 rintro e w1 ⟨hkp, ⟨n, r, hl, hle, hlt, rfl, ht⟩ | ⟨hno, rfl, T, x, ht⟩⟩
 · have HT := Lib.hid ht
   have HK := Lib.hid hkp
   have hg1 := ht.lt
   obtain ⟨A1, c1, i1, i2, i3, i4, i5, i6⟩ := ht
   have HR1 := Lib.hid i5
   have hrl : r.length ≤ 90000000 := by
     have := congrArg List.length hl
     rw [List.length_append] at this
     omega
   clear i5 i6 hkp
   by_cases hgt : r.length < n
   · have H22 := Lib.hid (fun W => new_new ⟨#[116, 97, 112, 101]⟩ 11 W rfl)
     have HL := Lib.hid hl
     clear hl
     go_wp2_with (go_at_call 128; refine (H22.out _).mono ?_; rintro e w' ⟨rfl, rfl⟩)
     go_ret
     have hrow := (HR.out.kp HK.out (fun j hj e => by subst e; exact HG.out hj)).kp (Kp.setCell (S := fun b => b = g) (p := ⟨g, 1, none⟩) (Kp.refl _ _) (fun _ => rfl) (.iface 236 (.pointer (some ⟨w1.heap.size, 0, none⟩)))) (fun j hj e => by subst e; exact HG.out hj)
     refine ⟨((HK.out.setCell (fun _ => rfl) _).setCell (fun _ => rfl) _).alloc _, .inr ⟨fun s r' h hs => ?_, rfl, 236, _, ((HT.out.setErr _).setLeft hrow HLen.out).alloc _⟩⟩
     rw [HL.out] at h
     obtain ⟨e1, e2⟩ := enc_prefix h
     rw [e2, List.length_append] at hgt
     omega
   · obtain ⟨s, r2, rfl, hsn⟩ : ∃ s r2, r = s ++ r2 ∧ s.length = n := ⟨r.take n, r.drop n, by simp, by simp; omega⟩
     subst hsn
     rw [List.length_append] at i1
     cases A1 with
     | none =>
      rcases HR1.out with ⟨_, _, hk, _⟩ | ⟨b, o, h, _⟩
      · rcases HR.out with ⟨_, _, _, h⟩ | ⟨b, o, _, hk2, _⟩
        · rw [h] at hl
          have h0 := congrArg List.length hl
          have h1 := enc_pos s.length
          rw [List.length_append] at h0
          simp at h0
          omega
        · rw [hk] at hk2; cases hk2
      · cases h
     | some a1 =>
      rcases HR1.out with ⟨h, _⟩ | ⟨b, o, hA, hk, hb, hlc, hcm, _⟩
      · cases h
      · injection hA with hA
        subst hA
        rw [List.length_append] at hlc
        obtain ⟨o', ho', hsl⟩ := slice_from b o s.length r2.length c1 hlc
        have hst := slice_to b o s.length r2.length c1 hlc
        have hcv := conv_str HR1.out.first c1
        have HO := Lib.hid ho'
        have HL := Lib.hid hl
        have HLe := Lib.hid hle
        clear ho' hl hle hk
        go_wp2_with fail
        go_ret
        exact ⟨HK.out.setCell (fun _ => rfl) _, .inl ⟨s, r2, HL.out, HLe.out, rfl, HT.out.setLeft (HR1.out.rest HO.out) rfl⟩⟩
 · have HT := Lib.hid ht
   have HK := Lib.hid hkp
   have HN := Lib.hid hno
   obtain ⟨A1, c1, i1, i2, i3, i4, i5, i6⟩ := ht
   clear i5 i6 hkp hno
   go_wp2_with fail
   go_ret
   exact ⟨HK.out, .inr ⟨fun s r h hs => HN.out s.length (s ++ r) h hs, rfl, T, x, HT.out⟩⟩
end Go.Proofs.YtgcbfggoddkhnaaGreatDoor.Tp
