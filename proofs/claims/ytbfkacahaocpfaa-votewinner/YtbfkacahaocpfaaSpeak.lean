
/- latticelaw02.speaks answers true. -/
import Derived.Test.YtbfkacahaocpfaaSeal
import Derived.Test.YtbfkacahaocpfaaRefNum
import Derived.Lib.SlBytesConst
namespace Go.Proofs.Ytbfkacahaocpfaa
open Go.RowKit Crcm

theorem crc9 : crc [49, 50, 51, 52, 53, 54, 55, 56, 57] = 3421780262 := by decide +kernel

end Go.Proofs.Ytbfkacahaocpfaa
