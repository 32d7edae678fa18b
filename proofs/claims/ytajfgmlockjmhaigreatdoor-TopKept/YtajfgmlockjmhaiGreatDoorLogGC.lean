/-
  Package log's Crash keeps what the laws ask of it.
-/
import Derived.Test.YtajfgmlockjmhaiGreatDoorJa9
import Derived.Test.YtajfgmlockjmhaiGreatDoorLogCr0
import Derived.Test.YtajfgmlockjmhaiGreatDoorJa15
namespace Go.Proofs.YtajfgmlockjmhaiGreatDoor
open Go.RowKit

theorem glogD_crash {G : World → Prop} {D : KerC G} {DP : KerPoke D} {DT : KerTime D} {hT : ∀ w, G w → Pow10 w} (hT2 : ∀ w, G w → Tabs2 w) : LogCrash (glogD D DP DT hT) := fun n hg ⟨x, h, hF⟩ hp hok => by
  subst hF
  refine (lgcrash_any n _ DP hT2 hg hp h hok).mono ?_
  rintro e w' ⟨hv, x', h3, h4, h5⟩
  exact ⟨hv, _, ⟨x', h3, rfl⟩, h4, h5⟩
end Go.Proofs.YtajfgmlockjmhaiGreatDoor
