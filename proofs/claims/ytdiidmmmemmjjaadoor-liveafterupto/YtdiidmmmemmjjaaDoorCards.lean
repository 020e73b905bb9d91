/-
  DERIVED. GIVEN WITH THE SEED: THE CARDS: each row of YtdiidmmmemmjjaaDoorRows.lean that lists a variable, with what it lists TIED to the program's text (the seventh form; the later family's looks); each row that meets fmt, with fmt's text TOLD by the authors' own Lean function (tested against real Go, not proved from fmt's source: count such statements apart). THE CARD IS WHAT COUNTS. Prove the row's statement (the work); the ties are given (YtdiidmmmemmjjaaDoorTie.lean); close each card by the builder's one call (the guide's Derived/Test/ToyasCard.lean, 'card_holds'). Laid BY PROGRAM, IN A SANDBOX (cutbox-door.mjs). By AI agents, Wed Nov 11 2026. No macro, syntax, notation, axiom, sorry.
-/
import Derived.Test.YtdiidmmmemmjjaaDoorRows
import GoSem.ClaimSeven
namespace Go.Proofs.YtdiidmmmemmjjaaDoor
namespace Rows

/-- THE TIED CARD OF 'burinlaw19.LiveParts'. -/
def livePartsCard : Claim7 := { stood := { row := livePartsRow, standIns := [], harness := (true, "4008e6c83326c35827005d95afbd34b59bcdc0f368fa3ba453c690f38d0a9d70"), looks := false }, kinds := [], alts := [], laidByText := true, laidKinds := [.data], laidTests := true, laidLooks := .later }
def LivePartsCardSaid : Prop := Claim7.holds Tryd.pinned (.plain (OpenSpec.ofChange livePartsSpec)) livePartsCard

/-- THE TIED CARD OF 'burinlaw19.LiveAfter'. -/
def liveAfterCard : Claim7 := { stood := { row := liveAfterRow, standIns := [], harness := (true, "4008e6c83326c35827005d95afbd34b59bcdc0f368fa3ba453c690f38d0a9d70"), looks := false }, kinds := [], alts := [], laidByText := true, laidKinds := [.data], laidTests := true, laidLooks := .later }
def LiveAfterCardSaid : Prop := Claim7.holds Tryd.pinned (.plain (OpenSpec.ofChange liveAfterSpec)) liveAfterCard

/-- THE TIED CARD OF 'burinlaw19.LiveKeeps'. -/
def liveKeepsCard : Claim7 := { stood := { row := liveKeepsRow, standIns := [], harness := (true, "4008e6c83326c35827005d95afbd34b59bcdc0f368fa3ba453c690f38d0a9d70"), looks := false }, kinds := [], alts := [], laidByText := true, laidKinds := [.data], laidTests := true, laidLooks := .later }
def LiveKeepsCardSaid : Prop := Claim7.holds Tryd.pinned (.plain (OpenSpec.ofChange liveKeepsSpec)) liveKeepsCard

/-- THE TIED CARD OF 'burinlaw19.LiveReads'. -/
def liveReadsCard : Claim7 := { stood := { row := liveReadsRow, standIns := [], harness := (true, "4008e6c83326c35827005d95afbd34b59bcdc0f368fa3ba453c690f38d0a9d70"), looks := false }, kinds := [], alts := [], laidByText := true, laidKinds := [.data], laidTests := true, laidLooks := .later }
def LiveReadsCardSaid : Prop := Claim7.holds Tryd.pinned (.plain (OpenSpec.ofChange liveReadsSpec)) liveReadsCard

/-- THE TIED CARD OF 'burinlaw19.LiveLoops'. -/
def liveLoopsCard : Claim7 := { stood := { row := liveLoopsRow, standIns := [], harness := (true, "4008e6c83326c35827005d95afbd34b59bcdc0f368fa3ba453c690f38d0a9d70"), looks := false }, kinds := [], alts := [], laidByText := true, laidKinds := [.data], laidTests := true, laidLooks := .later }
def LiveLoopsCardSaid : Prop := Claim7.holds Tryd.pinned (.plain (OpenSpec.ofChange liveLoopsSpec)) liveLoopsCard

/-- THE SECOND FORM's CARD OF 'burinlaw19.LiveParts'. -/
def livePartsUptoCard : Claim7 := { stood := { row := livePartsUptoRow, standIns := [], harness := (true, "4008e6c83326c35827005d95afbd34b59bcdc0f368fa3ba453c690f38d0a9d70"), looks := false }, kinds := [], alts := [], laidByText := true, laidKinds := [.data], laidTests := true, laidLooks := .later }
def LivePartsUptoCardSaid : Prop := Claim7.holds Tryd.pinned (.plain (OpenSpec.upto livePartsSpec)) livePartsUptoCard

/-- THE SECOND FORM's CARD OF 'burinlaw19.LiveAfter'. -/
def liveAfterUptoCard : Claim7 := { stood := { row := liveAfterUptoRow, standIns := [], harness := (true, "4008e6c83326c35827005d95afbd34b59bcdc0f368fa3ba453c690f38d0a9d70"), looks := false }, kinds := [], alts := [], laidByText := true, laidKinds := [.data], laidTests := true, laidLooks := .later }
def LiveAfterUptoCardSaid : Prop := Claim7.holds Tryd.pinned (.plain (OpenSpec.upto liveAfterSpec)) liveAfterUptoCard

/-- THE SECOND FORM's CARD OF 'burinlaw19.LiveKeeps'. -/
def liveKeepsUptoCard : Claim7 := { stood := { row := liveKeepsUptoRow, standIns := [], harness := (true, "4008e6c83326c35827005d95afbd34b59bcdc0f368fa3ba453c690f38d0a9d70"), looks := false }, kinds := [], alts := [], laidByText := true, laidKinds := [.data], laidTests := true, laidLooks := .later }
def LiveKeepsUptoCardSaid : Prop := Claim7.holds Tryd.pinned (.plain (OpenSpec.upto liveKeepsSpec)) liveKeepsUptoCard

/-- THE SECOND FORM's CARD OF 'burinlaw19.LiveReads'. -/
def liveReadsUptoCard : Claim7 := { stood := { row := liveReadsUptoRow, standIns := [], harness := (true, "4008e6c83326c35827005d95afbd34b59bcdc0f368fa3ba453c690f38d0a9d70"), looks := false }, kinds := [], alts := [], laidByText := true, laidKinds := [.data], laidTests := true, laidLooks := .later }
def LiveReadsUptoCardSaid : Prop := Claim7.holds Tryd.pinned (.plain (OpenSpec.upto liveReadsSpec)) liveReadsUptoCard

/-- THE SECOND FORM's CARD OF 'burinlaw19.LiveLoops'. -/
def liveLoopsUptoCard : Claim7 := { stood := { row := liveLoopsUptoRow, standIns := [], harness := (true, "4008e6c83326c35827005d95afbd34b59bcdc0f368fa3ba453c690f38d0a9d70"), looks := false }, kinds := [], alts := [], laidByText := true, laidKinds := [.data], laidTests := true, laidLooks := .later }
def LiveLoopsUptoCardSaid : Prop := Claim7.holds Tryd.pinned (.plain (OpenSpec.upto liveLoopsSpec)) liveLoopsUptoCard
end Rows
end Go.Proofs.YtdiidmmmemmjjaaDoor
