/- FaultHas, the tied card: for every slice of links and every two numbers the law returns true, and each argument reads afterwards as it read before. Conditions: none beyond the row's own; errors.errorType, which the row lists, is tied to the program's text by the card (over the pruned copy of the project that the seat holds). -/
import Derived.Test.YtflmfppigpeiaaaDoorP
import Derived.Test.YtflmfppigpeiaaaDoorTie
import Derived.Test.YtflmfppigpeiaaaDoorCards
import Derived.SevenTiedAt
namespace Go.Proofs.YtflmfppigpeiaaaDoor
open Go

theorem faultHas_holds : Rows.FaultHasCardSaid :=
  Claim7.holds_tied_plain_at .later [] [.handle] true (true, "49061af6aee8e868570d4d80263863a382ccfdf5b5114fbf4cb568ccde85915f") true
    has_row (fun _ h => by cases h) (by kernel_rfl) (fun _ h => by cases h) faultHas_row_tie rfl ⟨rfl, rfl⟩ (by kernel_rfl) rfl
    (fun f fn hf hfn => by
      obtain rfl : f = 4 := Option.some.inj ((show Tryd.prog.funcNamed Rows.faultHasRow.func = some 4 by kernel_rfl).symm.trans hf) |>.symm
      obtain rfl : fn = Tryd.f4 := (Option.some.inj (Tryd.func4.symm.trans hfn)).symm
      exact ⟨by kernel_rfl, fun j t ht => by
        rw [Tryd.params4] at ht
        have h3 : t = 22 ∨ t = 3 := by
          rcases j with _ | _ | _ | j
          · exact .inl (by simpa using ht.symm)
          · exact .inr (by simpa using ht.symm)
          · exact .inr (by simpa using ht.symm)
          · simp at ht
        rcases h3 with rfl | rfl
        · exact (show Tryd.prog.wantsStandIn 22 = false by kernel_rfl)
        · exact (show Tryd.prog.wantsStandIn 3 = false by kernel_rfl)⟩)
    (by kernel_rfl)
end Go.Proofs.YtflmfppigpeiaaaDoor
