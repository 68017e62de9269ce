import Derived.Test.YtenjollhlgjjdaaGreatDoorRows
import GoSem.ClaimSeven
namespace Go.Proofs.YtenjollhlgjjdaaGreatDoor
namespace Rows
def primPlaysCard : Claim7 := { stood := { row := primPlaysRow, standIns := [], harness := (true, "bed355109bec253044f3b92a6d6940333344320d795753c864b8295974a38b30"), looks := true }, kinds := [], alts := [], laidByText := true, laidKinds := [.data, .data, .data, .data, .listed, .data, .data, .pinned], laidTests := true, laidLooks := .later }
def PrimPlaysCardSaid : Prop := Claim7.holds Tryz.pinned (.plain (OpenSpec.ofChange primPlaysSpec)) primPlaysCard
def primPlaysUptoCard : Claim7 := { stood := { row := primPlaysUptoRow, standIns := [], harness := (true, "bed355109bec253044f3b92a6d6940333344320d795753c864b8295974a38b30"), looks := true }, kinds := [], alts := [], laidByText := true, laidKinds := [.data, .data, .data, .data, .listed, .data, .data, .pinned], laidTests := true, laidLooks := .later }
def PrimPlaysUptoCardSaid : Prop := Claim7.holds Tryz.pinned (.plain (OpenSpec.upto primPlaysSpec)) primPlaysUptoCard
end Rows
end Go.Proofs.YtenjollhlgjjdaaGreatDoor
