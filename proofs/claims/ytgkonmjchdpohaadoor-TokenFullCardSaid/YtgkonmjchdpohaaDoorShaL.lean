/- Out of the row's condition: the package's table holds FIPS 180-4's constants. Condition: the listed variable reads as the program's text lays it. -/
import Derived.Test.YtgkonmjchdpohaaDoorRows
import Derived.Test.YtgkonmjchdpohaaDoorShaT
import Derived.Lib.LaidTab
import Derived.LaidMore
import Derived.LaidByTextLater
namespace Go.Proofs.YtgkonmjchdpohaaDoor
set_option linter.unusedVariables false
set_option linter.unusedSimpArgs false

def kz : List Int := [1116352408, 1899447441, 3049323471, 3921009573, 961987163, 1508970993, 2453635748, 2870763221, 3624381080, 310598401, 607225278, 1426881987, 1925078388, 2162078206, 2614888103, 3248222580, 3835390401, 4022224774, 264347078, 604807628, 770255983, 1249150122, 1555081692, 1996064986, 2554220882, 2821834349, 2952996808, 3210313671, 3336571891, 3584528711, 113926993, 338241895, 666307205, 773529912, 1294757372, 1396182291, 1695183700, 1986661051, 2177026350, 2456956037, 2730485921, 2820302411, 3259730800, 3345764771, 3516065817, 3600352804, 4094571909, 275423344, 430227734, 506948616, 659060556, 883997877, 958139571, 1322822218, 1537002063, 1747873779, 1955562222, 2024104815, 2227730452, 2361852424, 2428436474, 2756734187, 3204031479, 3329325298]
theorem kz_kn : ∀ i, i < 64 → kz.getD i 0 = ((kn i).toNat : Int) := by decide +kernel
theorem gTab : Tryd.prog.globalNamed "ferrybridge/sha.factors" = some 0 := by kernel_rfl
theorem gTabType : (Tryd.prog.globals[0]?).map (·.type) = some 100 := by kernel_rfl
theorem tab_of {W : World} (h : laidMetH Tryd.prog [("ferrybridge/sha.factors", Rows.laid_ferrybridge_sha_factors)] W) : Tab W := by
  rw [MakeChecks.laidMetH_plain _ _ _ (by kernel_rfl)] at h
  have h' : laidMet Tryd.prog (("ferrybridge/sha.factors", Lib.tabData .u32 kz) :: []) W := h
  have hT := Lib.tabIs_of_head gTab gTabType Tryd.underlying100 Tryd.underlying38 (by kernel_rfl) (by kernel_rfl) h'
  intro i hi
  rw [hT.cell gTab i hi, kz_kn i hi]
end Go.Proofs.YtgkonmjchdpohaaDoor
