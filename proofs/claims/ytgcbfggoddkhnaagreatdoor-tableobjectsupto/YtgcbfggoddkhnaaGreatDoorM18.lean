/- Lemmas for the law: Zg, Zh, Zi, Zq, Zr, Zu, Zv. -/
import Derived.Test.YtgcbfggoddkhnaaGreatDoorM17
import Derived.Maps.RangeWalk
import Derived.Shelf.SlSortCmp.NoneTotal
import Derived.Test.YtgcbfggoddkhnaaGreatDoorProg
import Derived.Test.YtgcbfggoddkhnaaGreatDoorM14
import Derived.Test.YtgcbfggoddkhnaaGreatDoorM08
import Derived.Test.YtgcbfggoddkhnaaGreatDoorM16
import Derived.Test.YtgcbfggoddkhnaaGreatDoorM13
import Derived.Test.YtgcbfggoddkhnaaGreatDoorM09
import Derived.Lib.ConvBytes
import Derived.ChangeKeysEq
import Derived.Laws.StructEq
namespace Go.Proofs.YtgcbfggoddkhnaaGreatDoor
open Go.RowKit
def RngT (w : World) (bm r n : Nat) (T : TT) (V : List UInt8 → Value) (left : List UInt8 → Bool) (cnt : Nat) : Prop :=
 ∃ (D : DataW Value) (lf : Lit → Bool), w.ranges Tryz.prog 9 R9 bm r n D lf cnt ∧ (∀ s : List UInt8, (T s = none ∧ Maps.has D (.string s) = false) ∨ ((T s).isSome = true ∧ Maps.has D (.string s) = true ∧ ∀ z, D.atKey (.string s) z = .held (V s))) ∧
  (∀ s, left s = lf (.string s)) ∧ ∀ s, left s = true → (T s).isSome = true
theorem RngT.kept {w w' : World} {bm r n cnt : Nat} {T : TT} {V : List UInt8 → Value} {left : List UInt8 → Bool} {row : Option Nat} (h : RngT w bm r n T V left cnt) (hg : w.grownBy w' row) (hb : some bm ≠ row) (hr : some r ≠ row) : RngT w' bm r n T V left cnt := by
 obtain ⟨D, lf, h1, h2⟩ := h
 exact ⟨D, lf, h1.kept hg hb hr, h2⟩
theorem grown_none {w w' : World} (hb : Below w.heap.size w w') : w.grownBy w' none := ⟨hb.os, hb.tape, hb.output, hb.size, fun k hk _ => hb.block k hk⟩
theorem RngT.on {w w' : World} {bm r n cnt : Nat} {T : TT} {V : List UInt8 → Value} {left : List UInt8 → Bool} (h : RngT w bm r n T V left cnt) (hb : Below w.heap.size w w') : RngT w' bm r n T V left cnt := h.kept (grown_none hb) (by simp) (by simp)
theorem RngT.lt {w : World} {bm r n cnt : Nat} {T : TT} {V : List UInt8 → Value} {left : List UInt8 → Bool} (h : RngT w bm r n T V left cnt) : r < w.heap.size ∧ w.rangeLeft bm r = cnt := by
 obtain ⟨D, lf, h1, _⟩ := h
 exact ⟨h1.lt, h1.left_eq⟩
theorem wpList_range_T {w : World} {ops : Array Oper} {rest : List Oper} {o : Oper} {a : Act} {Q : Exit → Act → World → Prop} (hg : o.guard = none) (m : Operand) (hop : o.op = Op.range 72 m) {bm n : Nat} {T : TT} {V : List UInt8 → Value}
   (hm : a.eval m = .map (some bm)) (h : MapV w bm n T V)
   (hK : ∀ w' cnt, RngT w' bm w.heap.size n T V (fun s => (T s).isSome) cnt → Below w.heap.size w w' → wpList Tryz.prog ops Q rest (a.put o.dst (.pointer (some ⟨w.heap.size, 0, none⟩))) w') : wpList Tryz.prog ops Q (o :: rest) a w := by
 obtain ⟨D, h1, h2⟩ := h
 refine wpList_range_own w hg m 72 hop 9 29 law9 Tryz.underlying72 R9 bm n D hm h1 fun w' r1 r2 _ => hK w' _ ⟨D, _, r1, h2, fun s => ?_, fun s hs => hs⟩ ⟨r2.os, r2.tape, r2.output, r2.size, fun k hk => r2.block k hk (by simp)⟩
 rcases h2 s with ⟨a1, a2⟩ | ⟨a1, a2, _⟩
 · show (T s).isSome = _
   rw [a2, a1]; rfl
 · show (T s).isSome = _
   rw [a2, a1]
set_option maxRecDepth 100000 in
theorem key9_inv {v : Value} {kl : Lit} (h : keyOf Tryz.prog 9 v = some kl) : ∃ s : List UInt8, v = .string (str s) ∧ kl = .string s := by
 cases v <;> simp [keyOf, Tryz.underlying9, mapKey] at h
 rename_i x
 obtain ⟨_, rfl⟩ := h
 exact ⟨x.data.toList, by simp [str], rfl⟩
set_option maxRecDepth 100000 in
theorem wpList_next_T {w : World} {ops : Array Oper} {rest : List Oper} {o : Oper} {a : Act} {Q : Exit → Act → World → Prop} (hg : o.guard = none) (it : Operand) (hop : o.op = Op.next it false) {bm r n cnt : Nat} {T : TT} {V : List UInt8 → Value} {left : List UInt8 → Bool}
   (hit : a.eval it = .pointer (some ⟨r, 0, none⟩)) (h : RngT w bm r n T V left cnt)
   (hDone : cnt = 0 → (∀ s, left s = false) → wpList Tryz.prog ops Q rest (a.put o.dst (.tuple #[.bool false])) w)
   (hMore : ∀ (s : List UInt8) (ob : Ob) (w' : World) (cnt' : Nat), left s = true → T s = some ob → RngT w' bm r n T V (fun x => left x && !decide (x = s)) cnt' → cnt' < cnt → w.grownBy w' (some r) → w'.heap.size = w.heap.size →
     (Instr.entry (.pointer (some ⟨r, 0, none⟩))).run Tryz.prog w' = .ok (.tuple #[.string (str s), V s]) w' → wpList Tryz.prog ops Q rest (a.put o.dst (.tuple #[.bool true, .string (str s), V s])) w') :
   wpList Tryz.prog ops Q (o :: rest) a w := by
 obtain ⟨D, lf, h1, h2, h3, h4⟩ := h
 refine wpList_next_ranges w hg it hop 9 law9 R9 (fun s : List UInt8 => .string (str s)) (fun v : Value => v) (fun key kl hk => ?_) (fun v y _ => ⟨v, rfl⟩) bm r n D lf cnt hit h1 (fun hc hl => hDone hc fun s => by rw [h3, hl]) ?_
 · obtain ⟨s, rfl, _⟩ := key9_inv hk
   exact ⟨s, rfl⟩
 · intro x c kl y w' cnt' hkey hlk hv hat hrg hlt hgr hsz hen
   obtain ⟨s, hs, rfl⟩ := key9_inv hkey
   have hx : x = s := by
     injection hs with hs
     exact str_inj hs
   subst hx
   have hy : y = (.held c, []) := by
     unfold R9 at hv
     injection hv with hv
     exact hv.symm
   subst hy
   have hls : left x = true := by rw [h3, hlk]
   obtain ⟨ob, hob⟩ := Option.isSome_iff_exists.1 (h4 x hls)
   have hc : c = V x := by
     rcases h2 x with ⟨e1, _⟩ | ⟨_, _, e3⟩
     · rw [e1] at hob; cases hob
     · have := (e3 (.held zeroO)).symm.trans (hat (.held zeroO))
       injection this with this
       exact this.symm
   subst hc
   refine hMore x ob w' cnt' hls hob ⟨D, _, hrg, h2, fun z => ?_, fun z hz => ?_⟩ hlt hgr hsz hen
   · show (left z && !decide (z = x)) = _
     rw [h3]
     congr 1
     by_cases e : z = x
     · subst e
       rw [decide_eq_true rfl, WideAt.sameKey_self (by simp [WideAt.IsKeyLit])]
     · rw [decide_eq_false e]
       cases hsk : (Lit.string z).sameKey (.string x)
       · rfl
       · exact absurd (by have := WideAt.sameKey_eq hsk; injection this) e
   · rw [Bool.and_eq_true] at hz
     exact h4 z hz.1
theorem RngT.le {w : World} {bm r n cnt : Nat} {T : TT} {V : List UInt8 → Value} {left : List UInt8 → Bool} (h : RngT w bm r n T V left cnt) : cnt ≤ n := by
 obtain ⟨D, lf, ⟨es, clock, since, seen, c0, _, _, hs, _, _, _, hc, _⟩, _⟩ := h
 rw [← hc]
 unfold leftOf
 exact Nat.le_trans (Array.size_filter_le ..) hs
end Go.Proofs.YtgcbfggoddkhnaaGreatDoor
namespace Go.Proofs
open Go.Shelf
def Tryz.sortZ_ren : Go.Shelf.Ren := ⟨fun | 6 => 87 | 15 => 124 | 14 => 123 | 28 => 169 | 29 => 170 | 20 => 161 | 21 => 162 | 22 => 163 | 23 => 164 | 24 => 165 | 25 => 166 | 26 => 167 | 27 => 168 | 46 => 191 | 47 => 192 | 48 => 193 | 49 => 194 | 50 => 195 | 57 => 218 | n => n, fun | 22 => 66 | 24 => 43 | 25 => 128 | 3 => 3 | 39 => 78 | 0 => 0 | 53 => 210 | 55 => 212 | 4 => 4 | 46 => 203 | 45 => 202 | 50 => 207 | 5 => 5 | 9 => 9 | 66 => 230 | 70 => 234 | 76 => 256 | 77 => 257 | n => n, fun | n => n⟩
theorem Tryz.sortZ : Go.Proofs.SlLaysF.n6 Tryz.prog Tryz.sortZ_ren := {
 mixed := by kernel_rfl
 f6 := ⟨Tryz.f87.name, by decide, Tryz.func87.trans (congrArg some (by kernel_rfl))⟩
 f14 := ⟨Tryz.f123.name, by decide, Tryz.func123.trans (congrArg some (by kernel_rfl))⟩
 f15 := Tryz.func124.trans (congrArg some (by kernel_rfl))
 f20 := ⟨Tryz.f161.name, by decide, Tryz.func161.trans (congrArg some (by kernel_rfl))⟩
 f21 := ⟨Tryz.f162.name, by decide, Tryz.func162.trans (congrArg some (by kernel_rfl))⟩
 f22 := ⟨Tryz.f163.name, by decide, Tryz.func163.trans (congrArg some (by kernel_rfl))⟩
 f23 := ⟨Tryz.f164.name, by decide, Tryz.func164.trans (congrArg some (by kernel_rfl))⟩
 f24 := ⟨Tryz.f165.name, by decide, Tryz.func165.trans (congrArg some (by kernel_rfl))⟩
 f25 := ⟨Tryz.f166.name, by decide, Tryz.func166.trans (congrArg some (by kernel_rfl))⟩
 f26 := ⟨Tryz.f167.name, by decide, Tryz.func167.trans (congrArg some (by kernel_rfl))⟩
 f27 := ⟨Tryz.f168.name, by decide, Tryz.func168.trans (congrArg some (by kernel_rfl))⟩
 f28 := Tryz.func169.trans (congrArg some (by kernel_rfl))
 f29 := Tryz.func170.trans (congrArg some (by kernel_rfl))
 f46 := ⟨Tryz.f191.name, by decide, Tryz.func191.trans (congrArg some (by kernel_rfl))⟩
 f47 := Tryz.func192.trans (congrArg some (by kernel_rfl))
 f48 := Tryz.func193.trans (congrArg some (by kernel_rfl))
 f49 := ⟨Tryz.f194.name, by decide, Tryz.func194.trans (congrArg some (by kernel_rfl))⟩
 f50 := ⟨Tryz.f195.name, by decide, Tryz.func195.trans (congrArg some (by kernel_rfl))⟩
 f57 := ⟨Tryz.f218.name, by decide, Tryz.func218.trans (congrArg some (by kernel_rfl))⟩
 t0 := Tryz.underlying0
 a0 := Tryz.isAgg0
 z0 := Tryz.sizeOf0
 v0 := Tryz.zeroValue0
 t3 := Tryz.underlying3
 a3 := Tryz.isAgg3
 z3 := Tryz.sizeOf3
 v3 := Tryz.zeroValue3
 t4 := Tryz.underlying4
 a4 := Tryz.isAgg4
 z4 := Tryz.sizeOf4
 v4 := Tryz.zeroValue4
 t5 := Tryz.underlying5
 a5 := Tryz.isAgg5
 z5 := Tryz.sizeOf5
 v5 := Tryz.zeroValue5
 t9 := Tryz.underlying9
 a9 := Tryz.isAgg9
 z9 := Tryz.sizeOf9
 v9 := Tryz.zeroValue9
 t22 := Tryz.underlying66
 a22 := Tryz.isAgg66
 z22 := Tryz.sizeOf66
 v22 := Tryz.zeroValue66
 a24 := Tryz.isAgg43
 z24 := Tryz.sizeOf43
 t25 := Tryz.underlying128
 a25 := Tryz.isAgg128
 z25 := Tryz.sizeOf128
 v25 := Tryz.zeroValue128
 t39 := Tryz.underlying78
 a39 := Tryz.isAgg78
 z39 := Tryz.sizeOf78
 v39 := Tryz.zeroValue78
 t45 := Tryz.underlying202
 a45 := Tryz.isAgg202
 z45 := Tryz.sizeOf202
 v45 := Tryz.zeroValue202
 t46 := Tryz.underlying203
 a46 := Tryz.isAgg203
 z46 := Tryz.sizeOf203
 v46 := Tryz.zeroValue203
 t50 := Tryz.underlying207
 a50 := Tryz.isAgg207
 z50 := Tryz.sizeOf207
 v50 := Tryz.zeroValue207
 t53 := Tryz.underlying210
 a53 := Tryz.isAgg210
 z53 := Tryz.sizeOf210
 v53 := Tryz.zeroValue210
 t55 := Tryz.underlying212
 a55 := Tryz.isAgg212
 z55 := Tryz.sizeOf212
 v55 := Tryz.zeroValue212
 t66 := Tryz.underlying230
 a66 := Tryz.isAgg230
 z66 := Tryz.sizeOf230
 v66 := Tryz.zeroValue230
 t70 := Tryz.underlying234
 a70 := Tryz.isAgg234
 z70 := Tryz.sizeOf234
 v70 := Tryz.zeroValue234
 t76 := Tryz.underlying256
 a76 := Tryz.isAgg256
 z76 := Tryz.sizeOf256
 v76 := Tryz.zeroValue256
 t77 := Tryz.underlying257
 a77 := Tryz.isAgg257
 z77 := Tryz.sizeOf257
 v77 := Tryz.zeroValue257 }
end Go.Proofs
namespace Go.Proofs.YtgcbfggoddkhnaaGreatDoor
open Go.RowKit Go.Shelf
open Pa (cmpZ tot_cmpZ)
def WkG (w : World) (base : Nat) (v : Value) (W : List (List Int)) : Prop :=
 ∃ cs, w.ownsRow base 43 1 v W.length cs ∧ ∀ (i : Nat) (x : List Int), W[i]? = some x → ∃ u, cs[i]? = some u ∧ SlV w (fun b => v.ownBlock = some b ∨ b < base) u x.length (Pa.zCellsOf x)
theorem WkG.nil (w : World) (base : Nat) : WkG w base (.slice none 0 0) [] := ⟨[], World.ownsRow_nil _ _ _ _, fun i x h => by simp at h⟩
theorem WkG.on {w w' : World} {base : Nat} {v : Value} {W : List (List Int)} (h : WkG w base v W) (hb : Below w.heap.size w w') : WkG w' base v W := by
 obtain ⟨cs, h1, h2⟩ := h
 refine ⟨cs, own_on h1 hb, fun i x hx => ?_⟩
 obtain ⟨u, h3, h4⟩ := h2 i x hx
 exact ⟨u, h3, h4.on hb fun _ _ h => h⟩
theorem WkG.snoc {w w' : World} {base : Nat} {v v' u : Value} {W : List (List Int)} {x : List Int} {cs : List Value} (h1 : w.ownsRow base 43 1 v W.length cs)
   (h2 : ∀ (i : Nat) (x : List Int), W[i]? = some x → ∃ u, cs[i]? = some u ∧ SlV w (fun b => v.ownBlock = some b ∨ b < base) u x.length (Pa.zCellsOf x)) (hu : SlV w (fun b => v.ownBlock = some b ∨ b < base) u x.length (Pa.zCellsOf x))
   (hown : w'.ownsRow base 43 1 v' (W.length + 1) (cs ++ [u])) (hg : w.grownBy w' v.ownBlock) (hloc : v'.ownBlock = v.ownBlock ∨ v'.ownBlock = some w.heap.size) : WkG w' base v' (W ++ [x]) := by
 have hk := kp_grown hg
 have hS : ∀ b, b < w.heap.size → v.ownBlock = some b → (v.ownBlock = some b ∨ b < base) := fun b _ h => .inl h
 have hF : ∀ b, b < w.heap.size → (v'.ownBlock = some b ∨ b < base) → (v.ownBlock = some b ∨ b < base) := fun b hb e => by
   rcases e with e | e
   · rcases hloc with h | h
     · rw [h] at e; exact .inl e
     · rw [h] at e
       injection e with e
       omega
   · exact .inr e
 have hcl : cs.length = W.length := by have := h1.1; omega
 refine ⟨cs ++ [u], by rw [List.length_append]; exact hown, fun i y hy => ?_⟩
 by_cases hi : i < W.length
 · rw [List.getElem?_append_left hi] at hy
   obtain ⟨u2, h3, h4⟩ := h2 i y hy
   exact ⟨u2, by rw [List.getElem?_append_left (by omega)]; exact h3, h4.kp hk hS hF⟩
 · have hi2 : i = W.length := by
     have := (List.getElem?_eq_some_iff.1 hy).1
     simp at this
     omega
   subst hi2
   simp at hy
   subst hy
   exact ⟨u, by rw [← hcl]; simp, hu.kp hk hS hF⟩
theorem WkG.none {w : World} {base : Nat} {v : Value} {W : List (List Int)} (h : WkG w base v W) : ∃ A c, v = .slice A W.length c := by
 obtain ⟨cs, h1, _⟩ := h
 rcases h1.2 with ⟨hx, h0⟩ | ⟨g, c, cur, hx, _⟩
 · exact ⟨Option.none, 0, by rw [hx, h0]⟩
 · exact ⟨_, _, hx⟩
def PthsAt (w : World) (base : Nat) (v : Value) (W : List (List Int)) : Prop :=
 ∃ A c, v = .slice A W.length c ∧ (0 < W.length → ∃ b o, A = some ⟨b, o, none⟩ ∧ base ≤ b ∧ b < w.heap.size ∧ ∀ (i : Nat) (x : List Int), W[i]? = some x → ∃ u, w.cell? ⟨b, o + i, none⟩ = some u ∧ SlV w (fun b => b < base) u x.length (Pa.zCellsOf x))
theorem PthsAt.on {w w' : World} {base : Nat} {v : Value} {W : List (List Int)} (h : PthsAt w base v W) (hb : Below w.heap.size w w') : PthsAt w' base v W := by
 obtain ⟨A, c, h1, h2⟩ := h
 refine ⟨A, c, h1, fun hp => ?_⟩
 obtain ⟨b, o, h3, h0, h4, h5⟩ := h2 hp
 refine ⟨b, o, h3, h0, Nat.lt_of_lt_of_le h4 hb.size, fun i x hx => ?_⟩
 obtain ⟨u, h6, h7⟩ := h5 i x hx
 exact ⟨u, (hb.cell (p := ⟨b, o + i, none⟩) h4).trans h6, h7.on hb fun _ _ h => h⟩
theorem kp_sort {α : Type} [Inhabited α] (enc : α → Value) (w : World) (g off n : Nat) (d : Array α) (os : Array Obj) : Tp.Kp (fun b => b = g) w (Sort.grow (Sort.putRow enc (Sort.ahead w n) g off d) os) := by
 refine ⟨rfl, rfl, rfl, ?_, fun k hk hne => ?_⟩
 · rw [Sort.size_grow, put_size]
   omega
 · rw [Sort.heap_grow_old _ _ (by rw [put_size]; omega)]
   have : g ≠ k := fun e => hne e.symm
   simp [Sort.putRow, Sort.mapBlock, Sort.ahead, Array.getElem?_modify, this]
theorem asc_keys : ∀ {a b : List (List Int)}, a.Pairwise (fun x y => cmpZ x y = -1) → b.Pairwise (fun x y => cmpZ x y = -1) → (∀ x, x ∈ a ↔ x ∈ b) → a = b
 | [], [], _, _, _ => rfl
 | [], y :: m, _, _, h => absurd ((h y).2 (by simp)) (by simp)
 | x :: l, [], _, _, h => absurd ((h x).1 (by simp)) (by simp)
 | x :: l, y :: m, hl, hm, h => by
  have hl1 := List.pairwise_cons.1 hl
  have hm1 := List.pairwise_cons.1 hm
  have exy : x = y := by
    rcases List.mem_cons.1 ((h x).1 (by simp)) with e | e
    · exact e
    · rcases List.mem_cons.1 ((h y).2 (by simp)) with e2 | e2
      · exact e2.symm
      · exact absurd (tot_cmpZ.lt_trans (hl1.1 y e2) (hm1.1 x e)) (cmpZ_irr _)
  subst exy
  rw [asc_keys hl1.2 hm1.2 fun z => ?_]
  constructor
  · intro hz
    rcases List.mem_cons.1 ((h z).1 (List.mem_cons_of_mem _ hz)) with e | e
    · subst e; exact absurd (hl1.1 z hz) (cmpZ_irr _)
    · exact e
  · intro hz
    rcases List.mem_cons.1 ((h z).2 (List.mem_cons_of_mem _ hz)) with e | e
    · subst e; exact absurd (hm1.1 z hz) (cmpZ_irr _)
    · exact e
section
variable {M : Nat} (us : List Value) (ps : List (List Int))
def encP (i : Fin (M + 1)) : Value := (us[i.1]?).getD (.slice none 0 0)
def pthP (i : Fin (M + 1)) : List Int := (ps[i.1]?).getD []
def cfP (i j : Fin (M + 1)) : Int := cmpZ (pthP ps i) (pthP ps j)
theorem ltP_iff {x y : Fin (M + 1)} : ltOf (cfP ps) x y = decide (cmpZ (pthP ps x) (pthP ps y) < 0) := rfl
theorem swo_paths : Sort.SWO (ltOf (cfP (M := M) ps)) where
 irrefl x := by
  rw [ltP_iff, tot_cmpZ.refl]
  rfl
 trans x y z h1 h2 := by
  rw [ltP_iff] at *
  simp only [decide_eq_true_eq] at *
  have o1 := tot_cmpZ.one (pthP ps x) (pthP ps y)
  have o2 := tot_cmpZ.one (pthP ps y) (pthP ps z)
  have := tot_cmpZ.lt_trans (x := pthP ps x) (y := pthP ps y) (z := pthP ps z) (by omega) (by omega)
  omega
 ntrans x y z h1 h2 := by
  rw [ltP_iff] at *
  simp only [decide_eq_false_iff_not] at *
  have n1 := tot_cmpZ.neg (pthP ps x) (pthP ps y)
  have n2 := tot_cmpZ.neg (pthP ps y) (pthP ps z)
  have n3 := tot_cmpZ.neg (pthP ps x) (pthP ps z)
  have := tot_cmpZ.trans (pthP ps z) (pthP ps y) (pthP ps x) (by omega) (by omega)
  omega
end
set_option maxRecDepth 100000 in
theorem sortP_any {w : World} {base : Nat} {v : Value} {W : List (List Int)} (h : WkG w base v W) (hnd : W.Nodup) (hok : ∀ x ∈ W, Pa.PathOk x) (hn : W.length ≤ 100000000000) :
  Calls Tryz.prog 87 #[v, .func (.func 88) #[] #[]] w fun e w' => e = .returned (.tuple #[]) ∧ (∃ R : List (List Int), PthsAt w' base v R ∧ R.Pairwise (fun x y => cmpZ x y = -1) ∧ ∀ x, x ∈ R ↔ x ∈ W) ∧ Tp.Kp (fun b => v.ownBlock = some b) w w' := by
 cases hW : W with
 | nil =>
  subst hW
  obtain ⟨A, c, rfl⟩ := h.none
  refine Calls.mono (show Calls Tryz.prog 87 _ _ _ from AnyF.slices_SortFunc_none (P := Tryz.prog) (ρ := Tryz.sortZ_ren) { Tryz.sortZ with } A c (.func (.func 88) #[] #[]) w) ?_
  rintro e w' ⟨rfl, rfl⟩
  exact ⟨rfl, ⟨[], ⟨A, c, rfl, fun hp => absurd hp (by simp)⟩, List.Pairwise.nil, fun x => Iff.rfl⟩, Tp.Kp.refl _ _⟩
 | cons x0 r0 =>
  obtain ⟨M, hM⟩ : ∃ M, W.length = M + 1 := ⟨r0.length, by rw [hW]; rfl⟩
  rw [← hW]
  clear hW
  obtain ⟨us, hown, hus⟩ := h
  obtain ⟨g, c, rfl, hb, hlt, hcell, hfr⟩ := row_cell hown (by omega)
  have hul : us.length = M + 1 := by have := hown.1; omega
  have hd : ∀ j (hj : j < M + 1), ((Array.ofFn (n := M + 1) id)[j]!) = ⟨j, hj⟩ := fun j hj => by
    rw [getElem!_pos _ j (by simpa using hj)]
    simp
  have hH : Sort.Holds (encP (M := M) us) w g 0 (Array.ofFn (n := M + 1) id) := fun j hj => by
    have hj' : j < M + 1 := by simpa using hj
    rw [hd j hj', Nat.zero_add]
    refine ⟨?_, hfr j⟩
    have hju : us[j]? = some us[j] := List.getElem?_eq_getElem (by omega)
    rw [hcell j _ hju]
    simp [encP, hju]
  have hread : ∀ (i : Fin (M + 1)) (W' : World), Tp.Kp (fun b => b = g) w W' → ∃ A c, encP us i = .slice A (pthP W i).length c ∧ Pa.PL W' A c (pthP W i) := fun i W' hk => by
    have hi : i.1 < W.length := by rw [hM]; exact i.2
    obtain ⟨u, h1, h2⟩ := hus i.1 W[i.1] (List.getElem?_eq_getElem hi)
    have e1 : encP us i = u := by simp [encP, h1]
    have e2 : pthP W i = W[i.1] := by simp [pthP, hi]
    rw [e1, e2]
    refine (h2.kp (F' := fun b => (Value.slice (some ⟨g, 0, none⟩) W.length c).ownBlock = some b ∨ b < base) hk (fun b _ e => by rw [e]; exact .inl rfl) (fun _ _ h => h)).pl (hok _ (List.getElem_mem hi)).wide
  have hcmp : CmpLays1 Tryz.prog 88 #[] (encP (M := M) us) (cfP W) g 0 (Array.ofFn (n := M + 1) id).size w := by
    intro m os dk _ x y
    have hk := kp_sort (encP (M := M) us) w g 0 m dk os
    obtain ⟨A1, c1, e1, p1⟩ := hread x _ hk
    obtain ⟨A2, c2, e2, p2⟩ := hread y _ hk
    have hx : (pthP W x).length ≤ 140737488351232 ∧ (pthP W y).length ≤ 140737488351232 := by
      have hb : ∀ i : Fin (M + 1), (pthP W i).length ≤ 6 := fun i => by
       have hi : i.1 < W.length := by rw [hM]; exact i.2
       have e2 : pthP W i = W[i.1] := by simp [pthP, hi]
       rw [e2]
       exact (hok _ (List.getElem_mem hi)).1
      have := hb x
      have := hb y
      omega
    have hc := Pa.compare_any (c1 := c1) (c2 := c2) p1.zs p2.zs hx.1 hx.2
    rw [← e1, ← e2] at hc
    refine Calls.mono (show Calls Tryz.prog 88 (#[encP us x, encP us y] ++ #[]) _ _ from hc) ?_
    rintro e w' ⟨rfl, rfl⟩
    exact ⟨rfl, 0, #[], by rw [Sort.grow_empty]; rfl⟩
  have eg : ∀ args w, (callFunc 88 args).run Tryz.prog w = .ok (.enter 88 args) w := enters_of Tryz.func88 (by kernel_rfl) rfl
  have hT : ∀ x y : Fin (M + 1), ltOf (cfP W) x y = false → ltOf (cfP W) y x = false → x = y := fun x y h1 h2 => by
    rw [ltP_iff] at *
    simp only [decide_eq_false_iff_not] at *
    have n1 := tot_cmpZ.neg (pthP W x) (pthP W y)
    have he := (tot_cmpZ.eq (pthP W x) (pthP W y)).1 (by omega)
    have hx : x.1 < W.length := by rw [hM]; exact x.2
    have hy : y.1 < W.length := by rw [hM]; exact y.2
    have e1 : pthP W x = W[x.1] := by simp [pthP, hx]
    have e2 : pthP W y = W[y.1] := by simp [pthP, hy]
    rw [e1, e2] at he
    exact Fin.ext ((List.getElem_inj hnd).1 he)
  have hS := Any.slices_SortFunc_total Tryz.sortZ (encP (M := M) us) (fun i => by obtain ⟨A, c, e, _⟩ := hread i w (Tp.Kp.refl _ _); rw [e]; rfl) (cfP W) (swo_paths W) 88 #[] g 0 c (Array.ofFn (n := M + 1) id) w eg hcmp hH hlt (by simp; omega) hT
  have e0 : (Array.ofFn (n := M + 1) (id : Fin (M + 1) → Fin (M + 1))).size = W.length := by simp [hM]
  rw [e0] at hS
  refine Calls.mono (show Calls Tryz.prog 87 _ _ _ from hS) ?_
  rintro e w' ⟨rfl, n, os, rfl⟩
  have hk := kp_sort (encP (M := M) us) w g 0 n ((Array.ofFn (n := M + 1) id).toList.mergeSort fun x y => !(ltOf (cfP W)) y x).toArray os
  obtain ⟨R, hR⟩ : ∃ R, R = (Array.ofFn (n := M + 1) id).toList.mergeSort fun x y => !(ltOf (cfP W)) y x := ⟨_, rfl⟩
  have hperm : ∀ i : Fin (M + 1), i ∈ R := fun i => by
    rw [hR, List.mem_mergeSort, Array.toList_ofFn]
    exact List.mem_ofFn.2 ⟨i, rfl⟩
  have hRl : R.length = W.length := by rw [hR]; simp [hM]
  refine ⟨rfl, ⟨R.map (pthP W), ⟨some ⟨g, 0, none⟩, c, by rw [List.length_map, hRl], fun _ => ⟨g, 0, rfl, hb, Nat.lt_of_lt_of_le hlt hk.size, fun i x hx => ?_⟩⟩, ?_, fun x => ?_⟩, hk.more fun i _ e => by rw [e]; rfl⟩
  · rw [List.getElem?_map] at hx
    cases hq : R[i]? with
    | none => rw [hq] at hx; cases hx
    | some q =>
      rw [hq] at hx
      simp at hx
      subst hx
      have hi := (List.getElem?_eq_some_iff.1 hq).1
      have hHs := holds_grow (Sort.holds_putRow (encP (M := M) us) (Sort.ahead w n) g 0 (Array.ofFn (n := M + 1) id) R.toArray (fun j hj => hH j hj) (by simp [hRl, hM])) (by rw [put_size]; exact hlt) os
      have h1 := (hHs i (by simpa using hi)).1
      rw [getElem!_pos _ i (by simpa using hi)] at h1
      have e1 : R.toArray[i] = q := by simpa using (List.getElem?_eq_some_iff.1 hq).2
      rw [e1] at h1
      refine ⟨encP us q, by rw [hR] at h1; exact h1, ?_⟩
      have hqi : q.1 < W.length := by rw [hM]; exact q.2
      obtain ⟨u, h3, h4⟩ := hus q.1 W[q.1] (List.getElem?_eq_getElem hqi)
      have e3 : encP us q = u := by simp [encP, h3]
      have e4 : pthP W q = W[q.1] := by simp [pthP, hqi]
      rw [e3, e4]
      exact h4.kp hk (fun b _ e => by rw [e]; exact .inl rfl) (fun _ _ h => .inr h)
  · rw [List.pairwise_map, hR]
    have hnd2 : ((Array.ofFn (n := M + 1) id).toList.mergeSort fun x y => !(ltOf (cfP W)) y x).Nodup := ((List.mergeSort_perm _ _).nodup_iff).2 (by
      rw [Array.toList_ofFn]
      refine List.pairwise_iff_getElem.2 fun i j hi hj hij e => ?_
      rw [List.getElem_ofFn, List.getElem_ofFn] at e
      have := congrArg Fin.val e
      simp at this
      omega)
    have hp := List.pairwise_mergeSort (le := fun x y => !(ltOf (cfP W)) y x) (fun a b c h1 h2 => ?_) (fun a b => ?_) (Array.ofFn (n := M + 1) id).toList
    · refine (hp.and hnd2).imp fun {x y} hxy => ?_
      obtain ⟨h1, h2⟩ := hxy
      have h1 : ltOf (cfP W) y x = false := by simpa using h1
      cases h3 : ltOf (cfP W) x y with
      | false => exact absurd (hT x y h3 h1) h2
      | true =>
       rw [ltP_iff] at h3
       simp at h3
       have := tot_cmpZ.one (pthP W x) (pthP W y)
       omega
    · simp only [Bool.not_eq_true'] at *
      exact (swo_paths W).ntrans _ _ _ h2 h1
    · rw [ltP_iff, ltP_iff]
      have n1 := tot_cmpZ.neg (pthP W a) (pthP W b)
      simp
      omega
  · rw [List.mem_map]
    constructor
    · rintro ⟨i, _, rfl⟩
      have hi : i.1 < W.length := by rw [hM]; exact i.2
      have e2 : pthP W i = W[i.1] := by simp [pthP, hi]
      rw [e2]
      exact List.getElem_mem hi
    · intro hx
      obtain ⟨i, hi, rfl⟩ := List.getElem_of_mem hx
      exact ⟨⟨i, by omega⟩, hperm _, by simp [pthP, hi]⟩
end Go.Proofs.YtgcbfggoddkhnaaGreatDoor
namespace Go.Proofs.YtgcbfggoddkhnaaGreatDoor
open Go.RowKit
def GkRel (w : World) (g : Nat) (kk : Option Nat) (s : St) (N k : Nat) (v i : Value) (wr : World) : Prop :=
 ∃ m, m + k = N ∧ i = .int .i64 (m : Int) ∧ TapeS wr g kk (many kidS m (nS 16 s).2).2 ∧ wr.ownsRow w.heap.size 85 3 v (many kidS m (nS 16 s).2).1.length (kidCells (many kidS m (nS 16 s).2).1) ∧ Tp.Kp (fun b => b = g) w wr
set_option maxRecDepth 100000 in
set_option maxHeartbeats 1000000 in
theorem getKids_any {w : World} {g : Nat} {k : Option Nat} {s : St} (ht : TapeS w g k s) (hs : Tp.Sml s.1) (hn : s.1.length ≤ 80000000) :
  Calls Tryz.prog 131 #[.pointer (some ⟨g, 0, none⟩)] w fun e w' => GotS w g k (kidsS s).2 w' ∧ ∃ v, e = .returned v ∧ w'.ownsRow w.heap.size 85 3 v (kidsS s).1.length (kidCells (kidsS s).1) := by
 have hglt := ht.lt
 have HKL := Lib.hid ht.row_lt
 obtain ⟨N, hN, hN2, hN8⟩ := nS_nat (most := 16) (by omega) s
 have HLS : Hid (kidsS s = many kidS N (nS 16 s).2) := by unfold Hid kidsS cntS; rw [← hN2]
 have H90 := tapeS_num (most := 16) ht hs hn
 rw [hN] at H90
 have H90 := Lib.hid H90
 have hs1 : Tp.Sml (nS 16 s).2.1 ∧ (nS 16 s).2.1.length ≤ 80000000 := ⟨(nS_reads (by omega)).sml hs, Nat.le_trans ((nS_reads (by omega)).len s) hn⟩
 have HM : Hid (∀ m, Tp.Sml (many kidS m (nS 16 s).2).2.1 ∧ (many kidS m (nS 16 s).2).2.1.length ≤ 80000000) := fun m => by
  have := many_sml kidS_reads hs1.1 m
  exact ⟨this.1, Nat.le_trans this.2 hs1.2⟩
 have HN1 : Hid (∀ (most : Int) (u : St), most ≤ 4611686018427387903 → Tp.Sml u.1 ∧ u.1.length ≤ 80000000 → Tp.Sml (nS most u).2.1 ∧ (nS most u).2.1.length ≤ 80000000) := fun most u hm hu => ⟨(nS_reads hm).sml hu.1, Nat.le_trans ((nS_reads hm).len u) hu.2⟩
 obtain ⟨i0, hi, hz0, hz1, hz2⟩ := info_parts Tryz.info85
 obtain ⟨s1, hs1e⟩ : ∃ x, x = (nS 16 s).2 := ⟨_, rfl⟩
 have HS1E := Lib.hid hs1e
 rw [← hs1e] at HLS H90 HM
 clear ht hs hn hN hN2 hs1 hs1e
 go_enter Tryz.func131, Tryz.ntmps131
 go_wp2_with fail
 refine H90.out.mono ?_
 rintro e w1 ⟨rfl, ht1, hk1⟩
 have T1 := Lib.hid ht1
 have K1 := Lib.hid hk1
 clear ht1 hk1 H90
 go_wp2_with fail
 go_loopg [3, 8] N (fun c v i wr => GkRel w g k s N c v i wr)
 case atStart => exact ⟨0, by simp, rfl, by rw [← HS1E.out]; exact T1.out, World.ownsRow_nil _ _ _ _, K1.out⟩
 case round =>
  obtain ⟨m, hmk, hi2, htp, hrow, hkp⟩ := hrel
  subst hi2
  rw [← HS1E.out] at htp hrow
  have HT := Lib.hid htp
  have HROW := Lib.hid hrow
  have HK := Lib.hid hkp
  have hsz := hkp.size
  cases gk with
  | zero =>
   have hmn : m = N := by omega
   subst hmn
   rw [← HLS.out] at htp hrow HT HROW
   obtain ⟨A4, c4, hv4, -⟩ := slv_row hrow
   have hge : ¬ m < m := by omega
   subst hv4
   clear hrow hkp htp
   go_wp2_with fail
   go_ret
   exact ⟨⟨HT.out, HK.out⟩, _, rfl, HROW.out⟩
  | succ j =>
   have hm : m < N := by omega
   have hml := many_len kidS s1 m
   have HMANY : Hid (many kidS (m + 1) s1 = ((many kidS m s1).1 ++ [(kidS (many kidS m s1).2).1], (kidS (many kidS m s1).2).2)) := rfl
   have hst0 := HM.out m
   obtain ⟨st, hst⟩ : ∃ st, st = many kidS m s1 := ⟨_, rfl⟩
   rw [← hst] at HMANY HROW hml hst0 htp
   obtain ⟨a1, ha1⟩ : ∃ x, x = (nS 1048576 st.2).1 := ⟨_, rfl⟩
   obtain ⟨u1, hu1⟩ : ∃ x, x = (nS 1048576 st.2).2 := ⟨_, rfl⟩
   obtain ⟨a2, ha2⟩ : ∃ x, x = (nS 5 u1).1 := ⟨_, rfl⟩
   obtain ⟨u2, hu2⟩ : ∃ x, x = (nS 5 u1).2 := ⟨_, rfl⟩
   obtain ⟨a3, ha3⟩ : ∃ x, x = (nS 1048576 u2).1 := ⟨_, rfl⟩
   obtain ⟨u3, hu3⟩ : ∃ x, x = (nS 1048576 u2).2 := ⟨_, rfl⟩
   have HKD : Hid (kidS st.2 = ((a1, a2, a3), u3)) := by
    unfold Hid kidS
    rw [← hu1, ← hu2, ← hu3, ← ha1, ← ha2, ← ha3]
   have b1 := HN1.out 1048576 st.2 (by omega) hst0
   rw [← hu1] at b1
   have b2 := HN1.out 5 u1 (by omega) b1
   rw [← hu2] at b2
   have J1 := tapeS_num (most := 1048576) htp hst0.1 hst0.2
   rw [← ha1, ← hu1] at J1
   have J1 := Lib.hid J1
   have HB1 := Lib.hid b1
   have HB2 := Lib.hid b2
   have E2 := Lib.hid (⟨ha2, hu2⟩ : a2 = (nS 5 u1).1 ∧ u2 = (nS 5 u1).2)
   have E3 := Lib.hid (⟨ha3, hu3⟩ : a3 = (nS 1048576 u2).1 ∧ u3 = (nS 1048576 u2).2)
   have HMK := Lib.hid hmk
   clear htp hrow hkp hmk hst0 hst ha1 hu1 ha2 hu2 ha3 hu3 b1 b2
   go_wp2_with fail
   refine J1.out.mono ?_
   rintro e w2 ⟨rfl, ht2, hk2⟩
   have J2 := tapeS_num (most := 5) ht2 HB1.out.1 HB1.out.2
   rw [← E2.out.1, ← E2.out.2] at J2
   have J2 := Lib.hid J2
   have K2 : Hid (Tp.Kp (fun b => b = g) w w2) := HK.out.andThen hk2 (fun _ _ h => h)
   have R2 := Lib.hid (own_kp HROW.out hk2 (fun j hj e => by have := (own_block HROW.out hj).1; omega))
   clear hk2 ht2 J1
   go_wp2_with fail
   refine J2.out.mono ?_
   rintro e w3 ⟨rfl, ht3, hk3⟩
   have J3 := tapeS_num (most := 1048576) ht3 HB2.out.1 HB2.out.2
   rw [← E3.out.1, ← E3.out.2] at J3
   have J3 := Lib.hid J3
   have K3 : Hid (Tp.Kp (fun b => b = g) w w3) := K2.out.andThen hk3 (fun _ _ h => h)
   have R3 := Lib.hid (own_kp R2.out hk3 (fun j hj e => by have := (own_block R2.out hj).1; omega))
   clear hk3 ht3 J2
   go_wp2_with fail
   refine J3.out.mono ?_
   rintro e w4 ⟨rfl, ht4, hk4⟩
   have K4 : Hid (Tp.Kp (fun b => b = g) w w4) := K3.out.andThen hk4 (fun _ _ h => h)
   have R4 := Lib.hid (own_kp R3.out hk4 (fun j hj e => by have := (own_block R3.out hj).1; omega))
   have T4 := Lib.hid ht4
   have hs4 := K4.out.size
   have hg4 := ht4.lt
   have CL := Lib.hid (lit_cells w4 [.int .i64 a1, .int .i64 a2, .int .i64 a3] 85)
   have hbase : w.heap.size ≤ (w4.alloc (.cells #[.int .i64 a1, .int .i64 a2, .int .i64 a3] 85)).heap.size := by simp; omega
   have hsl : st.1.length ≤ 100 := by omega
   clear hk4 ht4 J3 hml
   go_wp2_with (first
    | (at_builtin; refine wpList_append_own _ rfl _ _ 24 rfl w.heap.size 85 i0 _ 3 24 Tryz.underlying24 hi hz0 hz1 hz2 rfl (by decide) _ st.1.length _ rfl (World.ownsRow.alloc R4.out _) ⟨w4.heap.size, 0, none⟩ 1 1 [.int .i64 a1, .int .i64 a2, .int .i64 a3] rfl rfl CL.out (by simp [Value.oneCell']) (by unfold maxLen; omega) (by omega) hbase ?_))
   intro v' w5 hown hg5 _
   rw [show kidCells st.1 ++ [.int .i64 a1, .int .i64 a2, .int .i64 a3] = kidCells (st.1 ++ [(a1, a2, a3)]) from kidCells_snoc st.1 (a1, a2, a3)] at hown
   have hall : Below w.heap.size w4 w5 := ((Below.refl _ _).alloc hs4 _).grown hg5 (by simp; omega) fun b hb => (own_block R4.out hb).1
   have K5 : Hid (Tp.Kp (fun b => b = g) w w5) := ⟨hall.os.trans K4.out.os, hall.tape.trans K4.out.tape, hall.output.trans K4.out.output, Nat.le_trans K4.out.size hall.size, fun j hj hne => (hall.block j hj).trans (K4.out.block j hj hne)⟩
   have T5 := Lib.hid (T4.out.kp (S := fun j => w.heap.size ≤ j) ⟨hall.os, hall.tape, hall.output, hall.size, fun j _ hne => hall.block j (by omega)⟩ (by omega) (fun j hj => by have := HKL.out j hj; omega))
   have R5 : Hid (w5.ownsRow w.heap.size 85 3 v' (st.1 ++ [(a1, a2, a3)]).length (kidCells (st.1 ++ [(a1, a2, a3)]))) := by rw [Hid, List.length_append]; exact hown
   clear hown hg5 hall
   go_wp2_with fail
   go_roundg j
   case measure => omega
   case rel => exact ⟨m + 1, by have := HMK.out; omega, by go_num, by rw [← HS1E.out, HMANY.out, HKD.out]; exact T5.out, by rw [← HS1E.out, HMANY.out, HKD.out]; exact R5.out, K5.out⟩
end Go.Proofs.YtgcbfggoddkhnaaGreatDoor
namespace Go.Proofs.YtgcbfggoddkhnaaGreatDoor
open Go.RowKit
theorem mapCells_snoc (m : Mp) (s : Value) : ∀ {ms : List Mp} {ss : List Value}, ss.length = ms.length → mapCells (ms ++ [m]) (ss ++ [s]) = mapCells ms ss ++ [.int .i64 m.1, s, .bool m.2.2]
 | [], [], _ => rfl
 | x :: r, y :: t, h => by
  have := mapCells_snoc m s (ms := r) (ss := t) (by simpa using h)
  simp [mapCells, this]
 | [], y :: t, h => by simp at h
 | x :: r, [], h => by simp at h
def MpRow (w : World) (base : Nat) (v : Value) (ms : List Mp) : Prop :=
 ∃ ss, w.ownsRow base 45 3 v ms.length (mapCells ms ss) ∧ SegsV w (fun b => v.ownBlock = some b ∨ b < base) ms ss
theorem MpRow.nil (w : World) (base : Nat) : MpRow w base (.slice none 0 0) [] := ⟨[], World.ownsRow_nil _ _ _ _, rfl, fun k m s h => by simp at h⟩
theorem MpRow.kp {S : Nat → Prop} {w w' : World} {base : Nat} {v : Value} {ms : List Mp} (h : MpRow w base v ms) (hk : Tp.Kp S w w') (hS : ∀ b, S b → b < base) : MpRow w' base v ms := by
 obtain ⟨ss, h1, h2⟩ := h
 exact ⟨ss, own_kp h1 hk fun j hj e => by have := hS j e; have := (own_block h1 hj).1; omega, h2.kp hk (fun b _ e => .inr (hS b e)) fun _ _ h => h⟩
theorem MpRow.maps {w : World} {base : Nat} {v : Value} {ms : List Mp} (h : MpRow w base v ms) : MapsV w (fun b => b < base) v ms := by
 obtain ⟨ss, h1, h2⟩ := h
 exact mapsV_of (h2.kp (S := fun _ => False) (F' := fun b => b < base) (Tp.Kp.refl _ w) (fun _ _ h => h.elim) fun _ _ h => .inr h) (slv_row h1)
theorem MpRow.shape {w : World} {base : Nat} {v : Value} {ms : List Mp} (h : MpRow w base v ms) : ∃ A c, v = .slice A ms.length c := by
 obtain ⟨ss, h1, _⟩ := h
 obtain ⟨A, c, h, _⟩ := slv_row h1
 exact ⟨A, c, h⟩
theorem MpRow.snoc {w w' : World} {base : Nat} {v v' s : Value} {ms : List Mp} {m : Mp} {ss : List Value} (h2 : SegsV w (fun b => v.ownBlock = some b ∨ b < base) ms ss)
   (hu : SlV w (fun b => v.ownBlock = some b ∨ b < base) s m.2.1.length (Pa.zCellsOf m.2.1)) (hown : w'.ownsRow base 45 3 v' (ms.length + 1) (mapCells ms ss ++ [.int .i64 m.1, s, .bool m.2.2])) (hg : w.grownBy w' v.ownBlock) (hloc : v'.ownBlock = v.ownBlock ∨ v'.ownBlock = some w.heap.size) : MpRow w' base v' (ms ++ [m]) := by
 have hk := kp_grown hg
 have hS : ∀ b, b < w.heap.size → v.ownBlock = some b → (v.ownBlock = some b ∨ b < base) := fun b _ h => .inl h
 have hF : ∀ b, b < w.heap.size → (v'.ownBlock = some b ∨ b < base) → (v.ownBlock = some b ∨ b < base) := fun b hb e => by
   rcases e with e | e
   · rcases hloc with h | h
     · rw [h] at e; exact .inl e
     · rw [h] at e
       injection e with e
       omega
   · exact .inr e
 refine ⟨ss ++ [s], by rw [mapCells_snoc m s h2.1, List.length_append]; exact hown, by rw [List.length_append, List.length_append, h2.1]; rfl, fun k x y hx hy => ?_⟩
 by_cases hi : k < ms.length
 · rw [List.getElem?_append_left hi] at hx
   rw [List.getElem?_append_left (by rw [h2.1]; exact hi)] at hy
   exact (h2.2 k x y hx hy).kp hk hS hF
 · have hi2 : k = ms.length := by
     have := (List.getElem?_eq_some_iff.1 hx).1
     simp at this
     omega
   subst hi2
   simp at hx
   subst hx
   rw [← h2.1] at hy
   simp at hy
   subst hy
   exact hu.kp hk hS hF
theorem many_stuck {α : Type} {f : St → α × St} {enc : α → List Nat} {P : α → Prop} (h : Reads f enc P) {s : St} {m : Nat} (hm : (many f m s).2.2 = false) : ∀ n, m ≤ n → (many f n s).2 = (many f m s).2
 | 0, hn => by
  have : m = 0 := by omega
  subst this; rfl
 | n + 1, hn => by
  by_cases e : m = n + 1
  · rw [e]
  · have ih := many_stuck h hm n (by omega)
    rw [many]
    simp only
    rw [ih]
    obtain ⟨l, hl⟩ : ∃ l, (many f m s).2 = (l, false) := ⟨(many f m s).2.1, by rw [← hm]⟩
    rw [hl]
    exact h.stuck l
def GmRel (w : World) (g : Nat) (kk : Option Nat) (s : St) (N k : Nat) (v i : Value) (wr : World) : Prop :=
 ∃ m, m + k = N ∧ i = .int .i64 (m : Int) ∧ TapeS wr g kk (many mapS m (nS 4 s).2).2 ∧ MpRow wr w.heap.size v (many mapS m (nS 4 s).2).1 ∧ Tp.Kp (fun b => b = g) w wr
def RetMaps (w : World) (s : St) (e : Ending) (w' : World) : Prop :=
 (∃ v, e = .returned (.tuple #[v, .int .i64 0]) ∧ MpRow w' w.heap.size v (mapsS s).1) ∨ ((mapsS s).2.2 = false ∧ e = .returned (.tuple #[.slice none 0 0, .int .i64 10]))
set_option maxRecDepth 100000 in
set_option maxHeartbeats 1000000 in
theorem getMaps_any {w : World} {g : Nat} {k : Option Nat} {s : St} (ht : TapeS w g k s) (hs : Tp.Sml s.1) (hn : s.1.length ≤ 80000000) :
  Calls Tryz.prog 134 #[.pointer (some ⟨g, 0, none⟩)] w fun e w' => GotS w g k (mapsS s).2 w' ∧ RetMaps w s e w' := by
 have hglt := ht.lt
 have HKL := Lib.hid ht.row_lt
 obtain ⟨N, hN, hN2, hN8⟩ := nS_nat (most := 4) (by omega) s
 have HLS : Hid (mapsS s = many mapS N (nS 4 s).2) := by unfold Hid mapsS cntS; rw [← hN2]
 have H90 := tapeS_num (most := 4) ht hs hn
 rw [hN] at H90
 have H90 := Lib.hid H90
 have hs1 : Tp.Sml (nS 4 s).2.1 ∧ (nS 4 s).2.1.length ≤ 80000000 := ⟨(nS_reads (by omega)).sml hs, Nat.le_trans ((nS_reads (by omega)).len s) hn⟩
 have HM : Hid (∀ m, Tp.Sml (many mapS m (nS 4 s).2).2.1 ∧ (many mapS m (nS 4 s).2).2.1.length ≤ 80000000) := fun m => by
  have := many_sml mapS_reads hs1.1 m
  exact ⟨this.1, Nat.le_trans this.2 hs1.2⟩
 obtain ⟨i0, hi, hz0, hz1, hz2⟩ := info_parts Tryz.info45
 obtain ⟨s1, hs1e⟩ : ∃ x, x = (nS 4 s).2 := ⟨_, rfl⟩
 have HS1E := Lib.hid hs1e
 rw [← hs1e] at HLS H90 HM
 clear ht hs hn hN hN2 hs1 hs1e
 go_enter Tryz.func134, Tryz.ntmps134
 go_wp2_with fail
 refine H90.out.mono ?_
 rintro e w1 ⟨rfl, ht1, hk1⟩
 have T1 := Lib.hid ht1
 have K1 := Lib.hid hk1
 clear ht1 hk1 H90
 go_wp2_with fail
 go_loopg [4, 10] N (fun c v i wr => GmRel w g k s N c v i wr)
 case atStart => exact ⟨0, by simp, rfl, by rw [← HS1E.out]; exact T1.out, MpRow.nil _ _, K1.out⟩
 case round =>
  obtain ⟨m, hmk, hi2, htp, hrow, hkp⟩ := hrel
  subst hi2
  rw [← HS1E.out] at htp hrow
  have HT := Lib.hid htp
  have HROW := Lib.hid hrow
  have HK := Lib.hid hkp
  have hsz := hkp.size
  cases gk with
  | zero =>
   have hmn : m = N := by omega
   subst hmn
   rw [← HLS.out] at htp hrow HT HROW
   obtain ⟨A4, c4, hv4⟩ := hrow.shape
   have hge : ¬ m < m := by omega
   subst hv4
   clear hrow hkp htp
   go_wp2_with fail
   go_ret2
   exact ⟨⟨HT.out, HK.out⟩, .inl ⟨_, rfl, HROW.out⟩⟩
  | succ j =>
   have hm : m < N := by omega
   have hml := many_len mapS s1 m
   have HMANY : Hid (many mapS (m + 1) s1 = ((many mapS m s1).1 ++ [(mapS (many mapS m s1).2).1], (mapS (many mapS m s1).2).2)) := rfl
   have HSTK : Hid ((many mapS (m + 1) s1).2.2 = false → (mapsS s).2 = (many mapS (m + 1) s1).2) := fun h => by
     rw [HLS.out]
     exact many_stuck mapS_reads h N (by omega)
   have hst0 := HM.out m
   obtain ⟨st, hst⟩ : ∃ st, st = many mapS m s1 := ⟨_, rfl⟩
   rw [← hst] at HMANY HROW hml hst0 htp
   obtain ⟨a1, ha1⟩ : ∃ x, x = (nS 1048576 st.2).1 := ⟨_, rfl⟩
   obtain ⟨u1, hu1⟩ : ∃ x, x = (nS 1048576 st.2).2 := ⟨_, rfl⟩
   obtain ⟨a2, ha2⟩ : ∃ x, x = (pathS u1).1 := ⟨_, rfl⟩
   obtain ⟨u2, hu2⟩ : ∃ x, x = (pathS u1).2 := ⟨_, rfl⟩
   obtain ⟨a3, ha3⟩ : ∃ x, x = (flagS u2).1 := ⟨_, rfl⟩
   obtain ⟨u3, hu3⟩ : ∃ x, x = (flagS u2).2 := ⟨_, rfl⟩
   have HKD : Hid (mapS st.2 = ((a1, a2, a3), u3)) := by
     unfold Hid mapS
     rw [← hu1, ← hu2, ← hu3, ← ha1, ← ha2, ← ha3]
   have HU3 : Hid (u2.2 = false → u3 = u2) := fun h => by
     obtain ⟨l, hl⟩ : ∃ l, u2 = (l, false) := ⟨u2.1, by rw [← h]⟩
     rw [hu3, hl]
     exact flagS_reads.stuck l
   have b1 : Tp.Sml u1.1 ∧ u1.1.length ≤ 80000000 := by rw [hu1]; exact ⟨(nS_reads (by omega)).sml hst0.1, Nat.le_trans ((nS_reads (by omega)).len _) hst0.2⟩
   have b2 : Tp.Sml u2.1 ∧ u2.1.length ≤ 80000000 := by rw [hu2]; exact ⟨pathS_reads.sml b1.1, Nat.le_trans (pathS_reads.len _) b1.2⟩
   have J1 := tapeS_num (most := 1048576) htp hst0.1 hst0.2
   rw [← ha1, ← hu1] at J1
   have J1 := Lib.hid J1
   have HB1 := Lib.hid b1
   have HB2 := Lib.hid b2
   have E2 := Lib.hid (⟨ha2, hu2⟩ : a2 = (pathS u1).1 ∧ u2 = (pathS u1).2)
   have E3 := Lib.hid (⟨ha3, hu3⟩ : a3 = (flagS u2).1 ∧ u3 = (flagS u2).2)
   have HMK := Lib.hid hmk
   clear htp hrow hkp hmk hst0 hst ha1 hu1 ha2 hu2 ha3 hu3 b1 b2
   go_wp2_with fail
   refine J1.out.mono ?_
   rintro e w2 ⟨rfl, ht2, hk2⟩
   have J2 := pathGet_any ht2 HB1.out.1 HB1.out.2
   rw [← E2.out.1, ← E2.out.2] at J2
   have J2 := Lib.hid J2
   have K2 : Hid (Tp.Kp (fun b => b = g) w w2) := HK.out.andThen hk2 (fun _ _ h => h)
   have R2 := Lib.hid (HROW.out.kp hk2 fun b e => by rw [e]; exact hglt)
   clear hk2 ht2 J1
   go_wp2_with fail
   refine J2.out.mono ?_
   rintro e w3 ⟨⟨ht3, hk3⟩, ⟨hok, v3, rfl, hr3⟩ | ⟨hok, rfl⟩⟩
   · obtain ⟨A3, c3, hv3⟩ := Pa.ZRow.slice hr3
     subst hv3
     have J3 := tapeS_flag ht3 HB2.out.1 HB2.out.2
     rw [← E3.out.1, ← E3.out.2] at J3
     have J3 := Lib.hid J3
     have K3 : Hid (Tp.Kp (fun b => b = g) w w3) := K2.out.andThen hk3 (fun _ _ h => h)
     have R3 := Lib.hid (R2.out.kp hk3 fun b e => by rw [e]; exact hglt)
     have Z3 : Hid (w3.ownsRow w2.heap.size 3 1 (.slice A3 a2.length c3) a2.length (Pa.zCellsOf a2)) := hr3
     have hb2 := K2.out.size
     clear hk3 ht3 J2 hr3 hok
     go_wp2_with fail
     refine J3.out.mono ?_
     rintro e w4 ⟨rfl, ht4, hk4⟩
     have K4 : Hid (Tp.Kp (fun b => b = g) w w4) := K3.out.andThen hk4 (fun _ _ h => h)
     obtain ⟨ss, hown4, hsg4⟩ := R3.out.kp hk4 fun b e => by rw [e]; exact hglt
     have Z4 := own_kp Z3.out hk4 fun j hj e => by have := (own_block Z3.out hj).1; omega
     have T4 := Lib.hid ht4
     have hs4 := K4.out.size
     have hg4 := ht4.lt
     have hal := (Below.refl w4.heap.size w4).alloc (Nat.le_refl _) (.cells #[.int .i64 a1, .slice A3 a2.length c3, .bool a3] 45)
     have H5 := Lib.hid (own_on hown4 hal)
     have G5 : Hid (SegsV (w4.alloc (.cells #[.int .i64 a1, .slice A3 a2.length c3, .bool a3] 45)) _ st.1 ss) := hsg4.kp (Tp.Kp.of_below hal fun _ => False) (fun _ _ h => h.elim) (fun _ _ h => h)
     have HOB : Hid (∀ x, x < w2.heap.size ∨ True → True) := fun _ _ => trivial
     have CL := Lib.hid (lit_cells w4 [.int .i64 a1, .slice A3 a2.length c3, .bool a3] 45)
     have hbase : w.heap.size ≤ (w4.alloc (.cells #[.int .i64 a1, .slice A3 a2.length c3, .bool a3] 45)).heap.size := by simp; omega
     have hsl : st.1.length ≤ 100 := by omega
     have hsz5 : (w4.alloc (.cells #[.int .i64 a1, .slice A3 a2.length c3, .bool a3] 45)).heap.size = w4.heap.size + 1 := by simp
     have HSZ5 := Lib.hid hsz5
     obtain ⟨Aw, cw, hvw⟩ : ∃ A c, _ = Value.slice A st.1.length c := R3.out.shape
     subst hvw
     have Q5 : Hid (SlV (w4.alloc (.cells #[.int .i64 a1, .slice A3 a2.length c3, .bool a3] 45)) (fun b => (Value.slice Aw st.1.length cw).ownBlock = some b ∨ b < w.heap.size) (.slice A3 a2.length c3) a2.length (Pa.zCellsOf a2)) := (slv_row Z4).on hal fun b _ hb => by
      rcases hb with hb | hb
      · obtain ⟨ss2, h1, _⟩ := R2.out
        exact (own_block h1 hb).2.1
      · omega
     have HGB : Hid (∀ b, (Value.slice Aw st.1.length cw).ownBlock = some b → w.heap.size ≤ b) := fun b hb => (own_block hown4 hb).1
     clear hk4 ht4 J3 hml hown4 hsg4 Z4 hal hsz5
     go_wp2_with (first
      | (at_builtin; refine wpList_append_own_at _ rfl _ _ 27 rfl w.heap.size 45 i0 _ 3 40 Tryz.underlying27 hi hz0 hz1 hz2 rfl (by decide) _ st.1.length _ rfl H5.out ⟨w4.heap.size, 0, none⟩ 1 1 [.int .i64 a1, .slice A3 a2.length c3, .bool a3] rfl rfl CL.out (by simp [Value.oneCell']) (by unfold maxLen; omega) (by omega) hbase ?_))
     intro v' w6 hown6 hg6 _ hloc6
     rw [← HSZ5.out] at hloc6
     have R6 := Lib.hid (MpRow.snoc (m := (a1, a2, a3)) G5.out Q5.out hown6 hg6 hloc6)
     have hall : Below w.heap.size w4 w6 := ((Below.refl _ _).alloc hs4 _).grown hg6 hbase HGB.out
     have K6 : Hid (Tp.Kp (fun b => b = g) w w6) := ⟨hall.os.trans K4.out.os, hall.tape.trans K4.out.tape, hall.output.trans K4.out.output, Nat.le_trans K4.out.size hall.size, fun j hj hne => (hall.block j hj).trans (K4.out.block j hj hne)⟩
     have T6 := Lib.hid (T4.out.kp (S := fun j => w.heap.size ≤ j) ⟨hall.os, hall.tape, hall.output, hall.size, fun j _ hne => hall.block j (by omega)⟩ (by omega) (fun j hj => by have := HKL.out j hj; omega))
     clear hown6 hg6 hloc6 hall
     go_wp2_with fail
     go_roundg j
     case measure => omega
     case rel => exact ⟨m + 1, by have := HMK.out; omega, by go_num, by rw [← HS1E.out, HMANY.out, HKD.out]; exact T6.out, by rw [← HS1E.out, HMANY.out, HKD.out]; exact R6.out, K6.out⟩
   · have K3 : Hid (Tp.Kp (fun b => b = g) w w3) := K2.out.andThen hk3 (fun _ _ h => h)
     have T3 := Lib.hid ht3
     have e3 : (many mapS (m + 1) s1).2 = u2 := by rw [HMANY.out, HKD.out]; exact HU3.out hok
     have HST : Hid ((mapsS s).2 = u2) := by rw [Hid, HSTK.out (by rw [e3]; exact hok), e3]
     have HOK := Lib.hid hok
     clear hk3 ht3 J2 hok e3
     go_wp2_with fail
     go_ret2
     rw [HST.out]
     exact ⟨⟨T3.out, K3.out⟩, .inr ⟨by rw [HST.out]; exact HOK.out, rfl⟩⟩
end Go.Proofs.YtgcbfggoddkhnaaGreatDoor
namespace Go.Proofs.YtgcbfggoddkhnaaGreatDoor
open Go.RowKit
set_option maxRecDepth 100000 in
theorem conv_bytes (w : World) (l : List Nat) : ∃ c W, (convert 9 25 (.string (Tp.str l))).run Tryz.prog w = .ok (.slice (some ⟨w.heap.size, 0, none⟩) l.length c) W ∧ Below w.heap.size w W ∧ (Tp.Sml l → SlV W (fun b => b < w.heap.size) (.slice (some ⟨w.heap.size, 0, none⟩) l.length c) l.length (Tp.cellsOf l)) := by
 refine ⟨grownCap w (Tp.str l).size 0 5, Lib.bytesWorld w 5 (Tp.str l), ?_, ?_, fun hs => ?_⟩
 · rw [Lib.run_convert_string_bytes w 9 25 5 (Tp.str l) Tryz.underlying9 Tryz.underlying25 Tryz.underlying5, Tp.str_size]
 · refine ⟨rfl, rfl, rfl, ?_, fun k hk => Lib.bytesWorld_at_old w 5 _ k hk⟩
   have h := Lib.bytesWorld_at_new w 5 (Tp.str l)
   have := (Array.getElem?_eq_some_iff.1 h).1
   omega
 · have h := Lib.bytesWorld_at_new w 5 (Tp.str l)
   refine ⟨_, _, rfl, (fun h => by cases h), by have := grownCap_ge w (Tp.str l).size 0 5; rw [Tp.str_size] at this ⊢; exact this, fun _ => ⟨w.heap.size, 0, rfl, by simp, (Array.getElem?_eq_some_iff.1 h).1, fun k u hu => ?_⟩⟩
   obtain ⟨c, hc, rfl⟩ := Tp.cellsOf_get hu
   rw [Nat.zero_add]
   have hb : (Tp.str l).data[k]? = some (UInt8.ofNat c) ∧ (UInt8.ofNat c).toNat = c := by
    have h1 := congrArg (fun x => x[k]?) (Tp.bys_str hs)
    simp only [hc, Tp.bys, List.getElem?_map] at h1
    cases hq : (Tp.str l).data.toList[k]? with
    | none => rw [hq] at h1; cases h1
    | some y =>
     rw [hq] at h1
     simp at h1
     subst h1
     exact ⟨by simpa using hq, by simp⟩
   simp only [World.cell?, h, Lib.bytesCells]
   rw [Array.getElem?_append_left (by
    have := (Array.getElem?_eq_some_iff.1 hb.1).1
    simpa using this)]
   simp [hb.1, hb.2]
def goodI (s : St) : Prop := (itemS s).2.2 = true ∧ RightL (itemS s).1.2.lab ∧ OwnL (itemS s).1.2.own ∧ RightL (itemS s).1.2.entry
noncomputable instance (s : St) : Decidable (goodI s) := inferInstanceAs (Decidable (_ ∧ _))
def RetItem (w : World) (s : St) (e : Ending) (w' : World) : Prop :=
 ∃ vp vo, e = .returned (.tuple #[vp, vo, .bool (decide (goodI s))]) ∧ ShapeO vo ∧ (∃ A n c, vp = .slice A n c) ∧
  (goodI s → SlV w' (fun b => b < w.heap.size) vp (itemS s).1.1.length (Pa.zCellsOf (itemS s).1.1) ∧ ∃ vk, w'.ownsRow w.heap.size 85 3 vk (itemS s).1.2.kids.length (kidCells (itemS s).1.2.kids) ∧ ObjK w' (fun x => x < w.heap.size ∨ vk.ownBlock = some x) vo vk (itemS s).1.2)
end Go.Proofs.YtgcbfggoddkhnaaGreatDoor
namespace Go.Proofs.YtgcbfggoddkhnaaGreatDoor
open Go.RowKit
theorem results_tct {fn : Func} {t p u : Tmp} {ty : TypeId} (h : fn.results = #[.tmp t, .cell p ty, .tmp u]) (tmps : Array Value) (P : Program) (w : World) :
  (results fn tmps).run P w =
   ((asAddr (tmps.getD p undef)).run P w).andThen fun a w₁ => ((loadVar ty a).run P w₁).andThen fun v w₂ => .ok (.tuple #[tmps.getD t undef, v, tmps.getD u undef]) w₂ := by
 simp only [results, h]
 simp [Sem.run_bind, Result.andThen]
set_option maxRecDepth 100000 in
theorem eq171 (a b c d e : Int) (W : World) : (binOp .eql 171 (.agg #[.int .i64 a, .int .i64 b, .int .i64 c, .int .i64 d, .int .i64 e]) (.agg #[.int .i64 0, .int .i64 0, .int .i64 0, .int .i64 0, .int .i64 0])).run Tryz.prog W = .ok (.bool (a == 0 && (b == 0 && (c == 0 && (d == 0 && e == 0))))) W := by
 obtain ⟨i, hi⟩ : ∃ i, Tryz.prog.info? 60 = some i := Option.isSome_iff_exists.1 (by kernel_rfl)
 have hc : Tryz.prog.cellsOf 60 = 1 := by kernel_rfl
 have hr : List.range 5 = [0, 1, 2, 3, 4] := rfl
 have he : ∀ (x : Int) (W : World), (Op.equalIn 9999 60 (.int .i64 x) (.int .i64 0)).run Tryz.prog W = .ok (x == 0) W := fun x W => run_equalIn_int (w := W) (P := Tryz.prog) 9998 60 _ _ x 0 Tryz.underlying60
 simp only [binOp]
 simp [Op.equal, Op.maxDepth, run_equalIn_array W 9999 _ _ Tryz.underlying171 hi, hc, hr, Op.eqItems, part, he]
 by_cases h1 : a = 0 <;> by_cases h2 : b = 0 <;> by_cases h3 : c = 0 <;> by_cases h4 : d = 0 <;> by_cases h5 : e = 0 <;> simp_all
end Go.Proofs.YtgcbfggoddkhnaaGreatDoor
