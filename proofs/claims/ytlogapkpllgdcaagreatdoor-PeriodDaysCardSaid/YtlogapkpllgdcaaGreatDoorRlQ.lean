/- Contract: the document's May of any rule. -/
import Derived.Test.YtlogapkpllgdcaaGreatDoorRlQa
import Derived.Test.YtlogapkpllgdcaaGreatDoorRlQb
import Derived.Test.YtlogapkpllgdcaaGreatDoorRlQc
import Derived.Test.YtlogapkpllgdcaaGreatDoorRlQd
namespace Go.Proofs.YtlogapkpllgdcaaGreatDoor
open Go.RowKit


theorem refMay_any (r : Rl) (w : World) :
    Calls Tryz.prog 32 #[rv r] w fun e w' => e = .returned (.bool (mayR r)) ∧ Below w.heap.size w w' := by
  rw [← mayD_is]
  obtain ⟨k, mo, n, wk, fy, fm, fd, ty, tm, td⟩ := r
  by_cases h0 : k = 0
  · subst h0; exact refMay0 mo n wk fy fm fd ty tm td w
  · by_cases h1 : k = 1
    · subst h1; exact refMay1 mo n wk fy fm fd ty tm td w
    · by_cases h2 : k = 2
      · subst h2; exact refMay2 mo n wk fy fm fd ty tm td w
      · by_cases h3 : k = 3
        · subst h3
          by_cases ha : mo = 0 ∧ n = 0 ∧ wk = 0
          · obtain ⟨a1, a2, a3⟩ := ha
            cases h4 : okD fy fm fd
            · exact refMay3b1 mo n wk fy fm fd ty tm td w a1 a2 a3 h4
            · cases h5 : okD ty tm td
              · exact refMay3b2 mo n wk fy fm fd ty tm td w a1 a2 a3 h4 h5
              · by_cases h6 : 0 ≤ fy
                · by_cases h7 : ty ≤ 9999
                  · exact refMay3c mo n wk fy fm fd ty tm td w a1 a2 a3 h4 h5 h6 h7
                  · exact refMay3b4 mo n wk fy fm fd ty tm td w a1 a2 a3 h4 h5 h6 h7
                · exact refMay3b3 mo n wk fy fm fd ty tm td w a1 a2 a3 h4 h5 h6
          · exact refMay3a mo n wk fy fm fd ty tm td w ha
        · have := refMay4 k mo n wk fy fm fd ty tm td w h0 h1 h2 h3
          unfold mayD
          simp only [if_neg h0, if_neg h1, if_neg h2, if_neg h3]
          exact this
end Go.Proofs.YtlogapkpllgdcaaGreatDoor
