/- What the program's DiskNew, DiskRead answer. -/
import Derived.Test.YtncooabjacpjbaaImplDisk
namespace Go.Proofs.Ytncooabjacpjbaa.Disk
open Go.RowKit Go.Proofs.Ytncooabjacpjbaa.Mem Go.Proofs.Ytncooabjacpjbaa.Harn Go.Proofs.Ytncooabjacpjbaa.DiskP

end Go.Proofs.Ytncooabjacpjbaa.Disk
