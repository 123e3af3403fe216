package impl

import (
	"errors"
	"strconv"
)

// Constants, see chapter 1.
const (
	OK        = 0
	ErrForm   = 1
	ErrSize   = 2
	ErrSyntax = 3
	ErrShort  = 4
	ErrSum    = 5
	ErrNone   = 6
	ErrThere  = 7
	ErrRange  = 8
	ErrFull   = 9
	ErrState  = 10
	MaxBytes  = 8000
	MaxList   = 400
	MaxTime   = 1000000
)

// What the bytes of a number, of a seal and of a name may be, see chapter 2.
const (
	maxNumBytes = 10
	sumBytes    = 4
	crcPoly     = 0xEDB88320
	maxSum      = 1<<32 - 1
	maxName     = 20
)

// NumOut is a thing of chapter 2.
type NumOut struct {
	N    int64
	At   int64
	Code int64
}

// TextOut is a thing of chapter 2.
type TextOut struct {
	Text string
	At   int64
	Code int64
}

// readFault is why no number stands at a place; code is the one to be told.
type readFault struct {
	code int64
}

// Error makes a readFault an error.
func (f readFault) Error() string {
	return "no number stands there: code " + strconv.FormatInt(f.code, 10)
}

// codeOf is the code that an error of reading tells, OK of none.
func codeOf(err error) int64 {
	var fault readFault
	if errors.As(err, &fault) {
		return fault.code
	}
	return OK
}

// join makes one text of two. It copies even if one of them is empty, so that no answer shares memory with an argument.
func join(a string, b string) string {
	both := make([]byte, len(a)+len(b))
	copy(both, a)
	copy(both[len(a):], b)
	return string(both)
}

// fold maps the numbers around 0 to small ones without a sign, so that they take few bytes.
func fold(n int64) uint64 {
	if n < 0 {
		return ^(uint64(n) << 1)
	}
	return uint64(n) << 1
}

// unfold undoes fold.
func unfold(u uint64) int64 {
	if u&1 == 1 {
		return int64(^(u >> 1))
	}
	return int64(u >> 1)
}

// PutNum: see chapter 2.
func PutNum(n int64) string {
	var buf [maxNumBytes]byte
	used := 0
	u := fold(n)
	for u >= 128 {
		buf[used] = byte(u&127) + 128
		used++
		u >>= 7
	}
	buf[used] = byte(u)
	return string(buf[:used+1])
}

// readNum reads the bytes of one number: its value ahead of unfold, and the place behind it.
func readNum(text string, at int64) (uint64, int64, error) {
	var u uint64
	var count int
	var b byte
	var fault readFault
	if at < 0 {
		fault.code = ErrForm
		goto wrong
	}
more:
	if at >= int64(len(text)) {
		fault.code = ErrShort
		goto wrong
	}
	b = text[at]
	u |= uint64(b&127) << (7 * count)
	at++
	count++
	if b < 128 || count == maxNumBytes {
		goto last
	}
	goto more
last:
	// The tenth byte has room for one bit alone; a last byte 0 behind others says nothing, and so is one too many.
	if count == maxNumBytes && b > 1 || count > 1 && b == 0 {
		fault.code = ErrSyntax
		goto wrong
	}
	return u, at, nil
wrong:
	return 0, 0, fault
}

// GetNum: see chapter 2.
func GetNum(text string, at int64) NumOut {
	if len(text) > MaxBytes {
		return NumOut{Code: ErrSize}
	}
	u, behind, err := readNum(text, at)
	if err != nil {
		return NumOut{Code: codeOf(err)}
	}
	return NumOut{N: unfold(u), At: behind}
}

// PutText: see chapter 2.
func PutText(t string) string {
	if len(t) > MaxBytes {
		return ""
	}
	return join(PutNum(int64(len(t))), t)
}

// GetText: see chapter 2.
func GetText(text string, at int64) TextOut {
	length := GetNum(text, at)
	if length.Code != OK {
		return TextOut{Code: length.Code}
	}
	if length.N < 0 || length.N > MaxBytes {
		return TextOut{Code: ErrSyntax}
	}
	behind := length.At + length.N
	if behind > int64(len(text)) {
		return TextOut{Code: ErrShort}
	}
	return TextOut{Text: join("", text[length.At:behind]), At: behind}
}

// NameRight: see chapter 2.
func NameRight(t string) bool {
	if len(t) < 1 || len(t) > maxName || !isLower(t[0]) {
		return false
	}
	for i := 1; i < len(t); i++ {
		if !isLower(t[i]) && !isDigit(t[i]) && t[i] != '_' {
			return false
		}
	}
	return true
}

func isLower(b byte) bool {
	return b >= 'a' && b <= 'z'
}

func isDigit(b byte) bool {
	return b >= '0' && b <= '9'
}

// crcByte takes one byte into the register of a CRC. All its bits may be put together ahead of shifting,
// since none of them is asked before it is the lowest one.
func crcByte(register uint32, b byte) uint32 {
	register ^= uint32(b)
	for i := 0; i < 8; i++ {
		low := register & 1
		register >>= 1
		if low == 1 {
			register ^= crcPoly
		}
	}
	return register
}

// Crc: see chapter 2.
func Crc(text string) int64 {
	// The CRC of no bytes is 0: from it on comes that of the text alone.
	return CrcMore(0, text)
}

// CrcMore: see chapter 2.
func CrcMore(crc int64, text string) int64 {
	if len(text) > MaxBytes || crc < 0 || crc > maxSum {
		return 0
	}
	register := ^uint32(crc)
	for i := 0; i < len(text); i++ {
		register = crcByte(register, text[i])
	}
	return int64(^register)
}

// sumText is a CRC as it stands in a seal.
func sumText(crc int64) string {
	var buf [sumBytes]byte
	for i := range buf {
		buf[i] = byte(crc >> (8 * i))
	}
	return string(buf[:])
}

// Seal: see chapter 2.
func Seal(text string) string {
	if len(text) > MaxBytes-sumBytes {
		return ""
	}
	return join(text, sumText(Crc(text)))
}

// Unseal: see chapter 2.
func Unseal(text string) TextOut {
	if len(text) > MaxBytes {
		return TextOut{Code: ErrSize}
	}
	if len(text) < sumBytes {
		return TextOut{Code: ErrShort}
	}
	inner := text[:len(text)-sumBytes]
	if Seal(inner) != text {
		return TextOut{Code: ErrSum}
	}
	return TextOut{Text: join("", inner)}
}
