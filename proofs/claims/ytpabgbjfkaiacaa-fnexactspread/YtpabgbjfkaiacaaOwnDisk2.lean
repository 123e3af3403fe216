/- The laws' functions on disks of the call's own, and on what the disk's functions tell. -/
import Derived.Test.YtpabgbjfkaiacaaOwnDisk
namespace Go.Proofs.Ytpabgbjfkaiacaa.Harn
open Go.RowKit Go.Proofs.Ytpabgbjfkaiacaa.Mem Go.Proofs.Ytpabgbjfkaiacaa.Mark

/-! ### what the disk's functions tell -/
/-- What is told, as a value. -/
abbrev outV (vs vp : Value) (t : ByteArray) (c : Int) : Value := .agg #[vs, vp, .string t, .int .i64 c]

end Go.Proofs.Ytpabgbjfkaiacaa.Harn
