/-
  DERIVED. GIVEN WITH THE SEED: THE CARDS: each row of YtomgnnbcaficaaaDoorRows.lean that lists a variable, with what it lists TIED to the program's text (the seventh form; the later family's looks); each row that meets fmt, with fmt's text TOLD by the authors' own Lean function (tested against real Go, not proved from fmt's source: count such statements apart). THE CARD IS WHAT COUNTS. Prove the row's statement (the work); the ties are given (YtomgnnbcaficaaaDoorTie.lean); close each card by the builder's one call (the guide's Derived/Test/ToyasCard.lean, 'card_holds'). Laid BY PROGRAM, IN A SANDBOX (cutbox-door.mjs). By AI agents, Wed Nov 11 2026. No macro, syntax, notation, axiom, sorry.
-/
import Derived.Test.YtomgnnbcaficaaaDoorRows
import GoSem.ClaimSeven
namespace Go.Proofs.YtomgnnbcaficaaaDoor
namespace Rows

/-- THE TIED CARD OF 'farlaw.LineTypes'. -/
def lineTypesCard : Claim7 := { stood := { row := lineTypesRow, standIns := [], harness := (true, "86c211caee3f1e41c143e7134b6a016208afcfacd8e0780845eba6df0ba5f690"), looks := false }, kinds := [], alts := [], laidByText := true, laidKinds := [.data, .pinned], laidTests := true, laidLooks := .later }
def LineTypesCardSaid : Prop := Claim7.holds Tryd.pinned (.plain (OpenSpec.ofChange lineTypesSpec)) lineTypesCard

/-- THE TIED CARD OF 'farkeep.LineCuts'. -/
def lineCutsCard : Claim7 := { stood := { row := lineCutsRow, standIns := [], harness := (true, "86c211caee3f1e41c143e7134b6a016208afcfacd8e0780845eba6df0ba5f690"), looks := false }, kinds := [], alts := [], laidByText := true, laidKinds := [.data, .pinned], laidTests := true, laidLooks := .later }
def LineCutsCardSaid : Prop := Claim7.holds Tryd.pinned (.plain (OpenSpec.ofChange lineCutsSpec)) lineCutsCard

/-- THE TIED CARD OF 'farkeep.LinePlain'. -/
def linePlainCard : Claim7 := { stood := { row := linePlainRow, standIns := [], harness := (true, "86c211caee3f1e41c143e7134b6a016208afcfacd8e0780845eba6df0ba5f690"), looks := false }, kinds := [], alts := [], laidByText := true, laidKinds := [.data, .pinned], laidTests := true, laidLooks := .later }
def LinePlainCardSaid : Prop := Claim7.holds Tryd.pinned (.plain (OpenSpec.ofChange linePlainSpec)) linePlainCard

/-- THE TIED CARD OF 'farkeep.LineQuotes'. -/
def lineQuotesCard : Claim7 := { stood := { row := lineQuotesRow, standIns := [], harness := (true, "86c211caee3f1e41c143e7134b6a016208afcfacd8e0780845eba6df0ba5f690"), looks := false }, kinds := [], alts := [], laidByText := true, laidKinds := [.data, .pinned], laidTests := true, laidLooks := .later }
def LineQuotesCardSaid : Prop := Claim7.holds Tryd.pinned (.plain (OpenSpec.ofChange lineQuotesSpec)) lineQuotesCard

/-- THE TIED CARD OF 'farkeep.LineErases'. -/
def lineErasesCard : Claim7 := { stood := { row := lineErasesRow, standIns := [], harness := (true, "86c211caee3f1e41c143e7134b6a016208afcfacd8e0780845eba6df0ba5f690"), looks := false }, kinds := [], alts := [], laidByText := true, laidKinds := [.data, .pinned], laidTests := true, laidLooks := .later }
def LineErasesCardSaid : Prop := Claim7.holds Tryd.pinned (.plain (OpenSpec.ofChange lineErasesSpec)) lineErasesCard

/-- THE TIED CARD OF 'farkeep.LineShows'. -/
def lineShowsCard : Claim7 := { stood := { row := lineShowsRow, standIns := [], harness := (true, "86c211caee3f1e41c143e7134b6a016208afcfacd8e0780845eba6df0ba5f690"), looks := false }, kinds := [], alts := [], laidByText := true, laidKinds := [.data, .pinned], laidTests := true, laidLooks := .later }
def LineShowsCardSaid : Prop := Claim7.holds Tryd.pinned (.plain (OpenSpec.ofChange lineShowsSpec)) lineShowsCard

/-- THE SECOND FORM's CARD OF 'farlaw.LineTypes'. -/
def lineTypesUptoCard : Claim7 := { stood := { row := lineTypesUptoRow, standIns := [], harness := (true, "86c211caee3f1e41c143e7134b6a016208afcfacd8e0780845eba6df0ba5f690"), looks := false }, kinds := [], alts := [], laidByText := true, laidKinds := [.data, .pinned], laidTests := true, laidLooks := .later }
def LineTypesUptoCardSaid : Prop := Claim7.holds Tryd.pinned (.plain (OpenSpec.upto lineTypesSpec)) lineTypesUptoCard

/-- THE SECOND FORM's CARD OF 'farkeep.LineCuts'. -/
def lineCutsUptoCard : Claim7 := { stood := { row := lineCutsUptoRow, standIns := [], harness := (true, "86c211caee3f1e41c143e7134b6a016208afcfacd8e0780845eba6df0ba5f690"), looks := false }, kinds := [], alts := [], laidByText := true, laidKinds := [.data, .pinned], laidTests := true, laidLooks := .later }
def LineCutsUptoCardSaid : Prop := Claim7.holds Tryd.pinned (.plain (OpenSpec.upto lineCutsSpec)) lineCutsUptoCard

/-- THE SECOND FORM's CARD OF 'farkeep.LinePlain'. -/
def linePlainUptoCard : Claim7 := { stood := { row := linePlainUptoRow, standIns := [], harness := (true, "86c211caee3f1e41c143e7134b6a016208afcfacd8e0780845eba6df0ba5f690"), looks := false }, kinds := [], alts := [], laidByText := true, laidKinds := [.data, .pinned], laidTests := true, laidLooks := .later }
def LinePlainUptoCardSaid : Prop := Claim7.holds Tryd.pinned (.plain (OpenSpec.upto linePlainSpec)) linePlainUptoCard

/-- THE SECOND FORM's CARD OF 'farkeep.LineQuotes'. -/
def lineQuotesUptoCard : Claim7 := { stood := { row := lineQuotesUptoRow, standIns := [], harness := (true, "86c211caee3f1e41c143e7134b6a016208afcfacd8e0780845eba6df0ba5f690"), looks := false }, kinds := [], alts := [], laidByText := true, laidKinds := [.data, .pinned], laidTests := true, laidLooks := .later }
def LineQuotesUptoCardSaid : Prop := Claim7.holds Tryd.pinned (.plain (OpenSpec.upto lineQuotesSpec)) lineQuotesUptoCard

/-- THE SECOND FORM's CARD OF 'farkeep.LineErases'. -/
def lineErasesUptoCard : Claim7 := { stood := { row := lineErasesUptoRow, standIns := [], harness := (true, "86c211caee3f1e41c143e7134b6a016208afcfacd8e0780845eba6df0ba5f690"), looks := false }, kinds := [], alts := [], laidByText := true, laidKinds := [.data, .pinned], laidTests := true, laidLooks := .later }
def LineErasesUptoCardSaid : Prop := Claim7.holds Tryd.pinned (.plain (OpenSpec.upto lineErasesSpec)) lineErasesUptoCard

/-- THE SECOND FORM's CARD OF 'farkeep.LineShows'. -/
def lineShowsUptoCard : Claim7 := { stood := { row := lineShowsUptoRow, standIns := [], harness := (true, "86c211caee3f1e41c143e7134b6a016208afcfacd8e0780845eba6df0ba5f690"), looks := false }, kinds := [], alts := [], laidByText := true, laidKinds := [.data, .pinned], laidTests := true, laidLooks := .later }
def LineShowsUptoCardSaid : Prop := Claim7.holds Tryd.pinned (.plain (OpenSpec.upto lineShowsSpec)) lineShowsUptoCard
end Rows
end Go.Proofs.YtomgnnbcaficaaaDoor
