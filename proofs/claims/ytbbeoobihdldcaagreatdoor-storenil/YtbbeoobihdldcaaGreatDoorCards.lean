import Derived.Test.YtbbeoobihdldcaaGreatDoorRows
import GoSem.ClaimSeven
namespace Go.Proofs.YtbbeoobihdldcaaGreatDoor
namespace Rows
def storeNilCard : Claim7 := { stood := { row := storeNilRow, standIns := [], harness := (true, "2b51f3d53f53d68ab7f4ae9d33046596aa6be544d9ccb66d3c5b42c113de91c9"), looks := true }, kinds := [], alts := [], laidByText := true, laidKinds := [.data, .data, .data, .data, .data, .pinned], laidTests := true, laidLooks := .later }
def StoreNilCardSaid : Prop := Claim7.holds Tryz.pinned (.plain (OpenSpec.ofChange storeNilSpec)) storeNilCard
def storeNilUptoCard : Claim7 := { stood := { row := storeNilUptoRow, standIns := [], harness := (true, "2b51f3d53f53d68ab7f4ae9d33046596aa6be544d9ccb66d3c5b42c113de91c9"), looks := true }, kinds := [], alts := [], laidByText := true, laidKinds := [.data, .data, .data, .data, .data, .pinned], laidTests := true, laidLooks := .later }
def StoreNilUptoCardSaid : Prop := Claim7.holds Tryz.pinned (.plain (OpenSpec.upto storeNilSpec)) storeNilUptoCard
end Rows
end Go.Proofs.YtbbeoobihdldcaaGreatDoor
