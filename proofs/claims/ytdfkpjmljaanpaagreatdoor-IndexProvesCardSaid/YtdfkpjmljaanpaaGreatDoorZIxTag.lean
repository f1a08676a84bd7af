/- IxTag, what is wanted of it. -/
import Derived.Test.YtdfkpjmljaanpaaGreatDoorZMBlock
namespace Go.Proofs.YtdfkpjmljaanpaaGreatDoor
theorem tg_at1 : (code [116, 97, 103] [1]).take 2 = [191, 187] := by decide +kernel
theorem tg_at2 : (code [116, 97, 103] [2]).take 2 = [2, 1] := by decide +kernel
end Go.Proofs.YtdfkpjmljaanpaaGreatDoor
