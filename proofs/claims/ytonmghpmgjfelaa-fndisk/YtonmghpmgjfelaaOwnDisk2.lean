/- The laws' functions on disks of the call's own, and on what the disk's functions tell. -/
import Derived.Test.YtonmghpmgjfelaaOwnDisk
namespace Go.Proofs.Ytonmghpmgjfelaa.Harn
open Go.RowKit Go.Proofs.Ytonmghpmgjfelaa.Mem Go.Proofs.Ytonmghpmgjfelaa.Mark

/-! ### what the disk's functions tell -/
/-- What is told, as a value. -/
abbrev outV (vs vp : Value) (t : ByteArray) (c : Int) : Value := .agg #[vs, vp, .string t, .int .i64 c]

end Go.Proofs.Ytonmghpmgjfelaa.Harn
