/-
  Contract of farref.ActRunes: an act's runes where it may be written, else none; conditions: texts and numbers of at most 2^20; the variable internal/bytealg.MaxLen holds an int.
-/
import Derived.Test.YtneiiinheimglaaGreatDoorJ11
import Derived.Test.YtneiiinheimglaaGreatDoorJ10
import Derived.Test.YtneiiinheimglaaGreatDoorBAct3
import Derived.Test.YtneiiinheimglaaGreatDoorBAct4a
import Derived.Test.YtneiiinheimglaaGreatDoorBAct4b
import Derived.Test.YtneiiinheimglaaGreatDoorBAct5
namespace Go.Proofs.YtneiiinheimglaaGreatDoor.B
open Go.RowKit Go.Lib Go.Proofs.YtneiiinheimglaaGreatDoor Go.Proofs.YtneiiinheimglaaGreatDoor.W Go.Proofs.YtneiiinheimglaaGreatDoor.Q Go.Proofs.YtneiiinheimglaaGreatDoor.C Go.Proofs.YtneiiinheimglaaGreatDoor.Z

theorem ActRunes_any (y : Ac) (vy : Value) (m : Int) (w : World) (hv : RdI w vy y.args) (hm : w.cell? ⟨2, 0, none⟩ = some (.int .i64 m)) (hin : y.inter.length ≤ 1048576) (htx : y.text.length ≤ 1048576) (har : y.args.length ≤ 1048576) :
    Calls Tryz.prog 5 #[.agg (acells y vy).toArray] w (ARes y (wL y) w) := by
  by_cases hk : 1 ≤ y.kind ∧ y.kind ≤ 5
  · have h5 : y.kind = 1 ∨ y.kind = 2 ∨ y.kind = 3 ∨ y.kind = 4 ∨ y.kind = 5 := by omega
    rcases h5 with h | h | h | h | h
    · exact ActRunes_1 y vy m w hv hm hin htx har h
    · exact ActRunes_2 y vy m w hv hm hin htx har h
    · exact ActRunes_3 y vy m w hv hm hin htx har h
    · by_cases h0 : (writeT y.args).2 = 0
      · by_cases hl : (writeT y.args).1.length ≤ 100
        · by_cases hmk : y.mark = 0
          · exact ActRunes_4a y vy m w hv hm hin htx har h h0 hl hmk
          · exact ActRunes_4b y vy m w hv hm hin htx har h h0 hl hmk
        · by_cases hmk : y.mark = 0
          · exact ActRunes_4ya y vy m w hv hm hin htx har h h0 hl hmk
          · exact ActRunes_4yb y vy m w hv hm hin htx har h h0 hl hmk
      · exact ActRunes_4x y vy m w hv hm hin htx har h h0
    · exact ActRunes_5 y vy m w hv hm hin htx har h
  · exact ActRunes_0 y vy m w hv hm hin htx har hk
end Go.Proofs.YtneiiinheimglaaGreatDoor.B
