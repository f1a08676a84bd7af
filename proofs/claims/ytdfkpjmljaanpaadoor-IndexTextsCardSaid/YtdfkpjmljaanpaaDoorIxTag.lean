/- The tags of the first 32 numbers, and of 40: their first two bytes, reckoned by the kernel. No program. -/
import Derived.Test.YtdfkpjmljaanpaaDoorMBlock
namespace Go.Proofs.YtdfkpjmljaanpaaDoor

theorem tg_at0 : (code [116, 97, 103] [0]).take 2 = [48, 237] := by decide +kernel
theorem tg_at1 : (code [116, 97, 103] [1]).take 2 = [191, 187] := by decide +kernel
theorem tg_at2 : (code [116, 97, 103] [2]).take 2 = [2, 1] := by decide +kernel
theorem tg_at3 : (code [116, 97, 103] [3]).take 2 = [115, 148] := by decide +kernel
theorem tg_at4 : (code [116, 97, 103] [4]).take 2 = [154, 62] := by decide +kernel
theorem tg_at5 : (code [116, 97, 103] [5]).take 2 = [96, 119] := by decide +kernel
theorem tg_at6 : (code [116, 97, 103] [6]).take 2 = [137, 215] := by decide +kernel
theorem tg_at7 : (code [116, 97, 103] [7]).take 2 = [104, 145] := by decide +kernel
theorem tg_at8 : (code [116, 97, 103] [8]).take 2 = [87, 64] := by decide +kernel
theorem tg_at9 : (code [116, 97, 103] [9]).take 2 = [202, 98] := by decide +kernel
theorem tg_at10 : (code [116, 97, 103] [10]).take 2 = [89, 9] := by decide +kernel
theorem tg_at11 : (code [116, 97, 103] [11]).take 2 = [60, 37] := by decide +kernel
theorem tg_at12 : (code [116, 97, 103] [12]).take 2 = [58, 241] := by decide +kernel
theorem tg_at13 : (code [116, 97, 103] [13]).take 2 = [158, 52] := by decide +kernel
theorem tg_at14 : (code [116, 97, 103] [14]).take 2 = [177, 149] := by decide +kernel
theorem tg_at15 : (code [116, 97, 103] [15]).take 2 = [38, 247] := by decide +kernel
theorem tg_at16 : (code [116, 97, 103] [16]).take 2 = [227, 41] := by decide +kernel
theorem tg_at17 : (code [116, 97, 103] [17]).take 2 = [244, 38] := by decide +kernel
theorem tg_at18 : (code [116, 97, 103] [18]).take 2 = [147, 48] := by decide +kernel
theorem tg_at19 : (code [116, 97, 103] [19]).take 2 = [27, 19] := by decide +kernel
theorem tg_at20 : (code [116, 97, 103] [20]).take 2 = [8, 89] := by decide +kernel
theorem tg_at21 : (code [116, 97, 103] [21]).take 2 = [55, 43] := by decide +kernel
theorem tg_at22 : (code [116, 97, 103] [22]).take 2 = [244, 148] := by decide +kernel
theorem tg_at23 : (code [116, 97, 103] [23]).take 2 = [99, 231] := by decide +kernel
theorem tg_at24 : (code [116, 97, 103] [24]).take 2 = [135, 58] := by decide +kernel
theorem tg_at25 : (code [116, 97, 103] [25]).take 2 = [179, 29] := by decide +kernel
theorem tg_at26 : (code [116, 97, 103] [26]).take 2 = [149, 127] := by decide +kernel
theorem tg_at27 : (code [116, 97, 103] [27]).take 2 = [147, 53] := by decide +kernel
theorem tg_at28 : (code [116, 97, 103] [28]).take 2 = [244, 56] := by decide +kernel
theorem tg_at29 : (code [116, 97, 103] [29]).take 2 = [155, 204] := by decide +kernel
theorem tg_at30 : (code [116, 97, 103] [30]).take 2 = [72, 106] := by decide +kernel
theorem tg_at31 : (code [116, 97, 103] [31]).take 2 = [24, 249] := by decide +kernel
theorem tg_at40 : (code [116, 97, 103] [40]).take 2 = [93, 189] := by decide +kernel
end Go.Proofs.YtdfkpjmljaanpaaDoor
