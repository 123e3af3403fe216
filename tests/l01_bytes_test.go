package tests

import (
	"encoding/binary"
	"hash/crc32"
	"math"
	"strings"
	"testing"
	"unsafe"

	"loop.example/g00626/impl"
)

// textOf is a text of n bytes in which neighbours are unlike, and every byte comes.
func textOf(n int) string {
	b := make([]byte, n)
	for i := range b {
		b[i] = byte(i*37 + i/256)
	}
	return string(b)
}

// someNumbers are the least and the greatest numbers, and those around each power of two.
func someNumbers() []int64 {
	l := []int64{0, math.MinInt64, math.MinInt64 + 1, math.MaxInt64, math.MaxInt64 - 1}
	for i := range 63 {
		p := int64(1) << i
		l = append(l, p-1, p, p+1, -p+1, -p, -p-1, p/3, -p/3)
	}
	return l
}

// shares tells whether two texts lie in the same memory. The texts of one byte are kept once for all by Go itself.
func shares(a string, b string) bool {
	if len(a) < 2 || len(b) < 2 {
		return false
	}
	pa, pb := uintptr(unsafe.Pointer(unsafe.StringData(a))), uintptr(unsafe.Pointer(unsafe.StringData(b)))
	return pa < pb+uintptr(len(b)) && pb < pa+uintptr(len(a))
}

func TestConstants(t *testing.T) {
	got := []int64{impl.OK, impl.ErrForm, impl.ErrSize, impl.ErrSyntax, impl.ErrShort, impl.ErrSum, impl.ErrNone,
		impl.ErrThere, impl.ErrRange, impl.ErrFull, impl.ErrState}
	for i, c := range got {
		if c != int64(i) {
			t.Errorf("code %d is %d", i, c)
		}
	}
	if impl.MaxBytes != 8000 || impl.MaxList != 400 || impl.MaxTime != 1000000 {
		t.Error("a limit is another one")
	}
}

func TestPutNum(t *testing.T) {
	for _, c := range []struct {
		n    int64
		want string
	}{
		{0, "\x00"},
		{-1, "\x01"},
		{1, "\x02"},
		{-2, "\x03"},
		{63, "\x7e"},
		{-64, "\x7f"},
		{64, "\x80\x01"},
		{-65, "\x81\x01"},
		{8191, "\xfe\x7f"},
		{-8192, "\xff\x7f"},
		{8192, "\x80\x80\x01"},
		{math.MaxInt64, "\xfe\xff\xff\xff\xff\xff\xff\xff\xff\x01"},
		{math.MinInt64, "\xff\xff\xff\xff\xff\xff\xff\xff\xff\x01"},
	} {
		if got := impl.PutNum(c.n); got != c.want {
			t.Errorf("PutNum(%d) is %x, not %x", c.n, got, c.want)
		}
	}
	for _, n := range someNumbers() {
		if got, want := impl.PutNum(n), string(binary.AppendVarint(nil, n)); got != want {
			t.Errorf("PutNum(%d) is %x, not %x", n, got, want)
		}
	}
}

// Promise 1, of numbers: wherever they stand, and whatever stands around them.
func TestNumbersComeBack(t *testing.T) {
	for _, n := range someNumbers() {
		b := impl.PutNum(n)
		for _, ahead := range []string{"", "\x00", "\xff\xff", "abc"} {
			for _, behind := range []string{"", "\x00", "\x80", "\xff"} {
				want := impl.NumOut{N: n, At: int64(len(ahead) + len(b))}
				if got := impl.GetNum(ahead+b+behind, int64(len(ahead))); got != want {
					t.Errorf("GetNum of %d behind %x, ahead of %x: %+v", n, ahead, behind, got)
				}
			}
		}
		for i := range len(b) {
			if got := impl.GetNum(b[:i], 0); got != (impl.NumOut{Code: impl.ErrShort}) {
				t.Errorf("GetNum of the first %d bytes of %d: %+v", i, n, got)
			}
		}
		if got := impl.GetNum(b+"\x00", int64(len(b))); got != (impl.NumOut{At: int64(len(b)) + 1}) {
			t.Errorf("GetNum of the 0 behind %d: %+v", n, got)
		}
	}
}

func TestGetNumFaults(t *testing.T) {
	nine := strings.Repeat("\x80", 9)
	tooLong := strings.Repeat("\x00", impl.MaxBytes+1)
	for _, c := range []struct {
		what string
		text string
		at   int64
		code int64
	}{
		{"a place below 0", "\x00", -1, impl.ErrForm},
		{"the least place", "\x00", math.MinInt64, impl.ErrForm},
		{"a place below 0 of nothing", "", -1, impl.ErrForm},
		{"a place below 0 of a wrong number", "\x80\x00", -1, impl.ErrForm},
		{"nothing", "", 0, impl.ErrShort},
		{"the end", "\x00", 1, impl.ErrShort},
		{"behind the end", "\x00", 2, impl.ErrShort},
		{"the greatest place", "\x00", math.MaxInt64, impl.ErrShort},
		{"one byte of two", "\x80", 0, impl.ErrShort},
		{"nine bytes of ten", nine, 0, impl.ErrShort},
		{"nine bytes of ten, all ones", strings.Repeat("\xff", 9), 0, impl.ErrShort},
		{"one byte more than is needed", "\x80\x00", 0, impl.ErrSyntax},
		{"one byte more than is needed, of more than 0", "\x81\x00", 0, impl.ErrSyntax},
		{"two bytes more than are needed", "\xff\x80\x00", 0, impl.ErrSyntax},
		{"ten bytes, the last one 0", nine + "\x00", 0, impl.ErrSyntax},
		{"a tenth byte of 2", nine + "\x02", 0, impl.ErrSyntax},
		{"a tenth byte of 3", nine + "\x03", 0, impl.ErrSyntax},
		{"a tenth byte of 127", nine + "\x7f", 0, impl.ErrSyntax},
		{"a tenth byte of 128", nine + "\x80", 0, impl.ErrSyntax},
		{"a tenth byte of 129", nine + "\x81", 0, impl.ErrSyntax},
		{"a tenth byte of 129, and one behind it", nine + "\x81\x00", 0, impl.ErrSyntax},
		{"many bytes, none the last", strings.Repeat("\xff", 50), 0, impl.ErrSyntax},
		{"a text too long", tooLong, 0, impl.ErrSize},
		{"a text too long, a place below 0", tooLong, -1, impl.ErrSize},
		{"a text too long, a place behind it", tooLong, impl.MaxBytes + 2, impl.ErrSize},
	} {
		if got := impl.GetNum(c.text, c.at); got != (impl.NumOut{Code: c.code}) {
			t.Errorf("GetNum of %s: %+v, not the code %d", c.what, got, c.code)
		}
		if got := impl.GetText(c.text, c.at); got != (impl.TextOut{Code: c.code}) {
			t.Errorf("GetText of %s: %+v, not the code %d", c.what, got, c.code)
		}
	}
	if got := impl.GetNum(nine+"\x01", 0); got != (impl.NumOut{N: 1 << 62, At: 10}) {
		t.Errorf("a tenth byte of 1: %+v", got)
	}
	if got := impl.GetNum(tooLong[1:], impl.MaxBytes-1); got != (impl.NumOut{At: impl.MaxBytes}) {
		t.Errorf("the last byte of MaxBytes: %+v", got)
	}
	if got := impl.GetNum(tooLong[1:], impl.MaxBytes); got != (impl.NumOut{Code: impl.ErrShort}) {
		t.Errorf("the end of MaxBytes: %+v", got)
	}
}

// numByOther reads a number by the library, and by putting it again.
func numByOther(text string) impl.NumOut {
	n, many := binary.Varint([]byte(text))
	if many == 0 && len(text) < 10 {
		return impl.NumOut{Code: impl.ErrShort}
	}
	if many <= 0 || string(binary.AppendVarint(nil, n)) != text[:many] {
		return impl.NumOut{Code: impl.ErrSyntax}
	}
	return impl.NumOut{N: n, At: int64(many)}
}

func TestGetNumOfAnyBytes(t *testing.T) {
	some := []string{"\x00", "\x01", "\x02", "\x7f", "\x80", "\x81", "\xff"}
	ends := []string{""}
	for range 4 {
		var longer []string
		for _, e := range ends {
			for _, b := range some {
				longer = append(longer, e+b)
			}
		}
		ends = append(ends, longer...)
	}
	for _, ahead := range []string{"", strings.Repeat("\x80", 7), strings.Repeat("\xff", 8)} {
		for _, e := range ends {
			if got, want := impl.GetNum(ahead+e, 0), numByOther(ahead+e); got != want {
				t.Fatalf("GetNum of %x: %+v, not %+v", ahead+e, got, want)
			}
		}
	}
}

func TestPutText(t *testing.T) {
	for _, n := range []int{0, 1, 63, 64, 100, 8000 - 2, impl.MaxBytes} {
		text := textOf(n)
		if got := impl.PutText(text); got != impl.PutNum(int64(n))+text {
			t.Errorf("PutText of %d bytes is none", n)
		}
	}
	for _, n := range []int{impl.MaxBytes + 1, 3 * impl.MaxBytes} {
		if got := impl.PutText(textOf(n)); got != "" {
			t.Errorf("PutText of %d bytes has %d", n, len(got))
		}
	}
}

// Promise 1, of texts: those of which the bytes fit into a text that GetText takes.
func TestTextsComeBack(t *testing.T) {
	for _, n := range []int{0, 1, 2, 63, 64, 65, 127, 128, 1000, 7990, impl.MaxBytes - 2} {
		text := textOf(n)
		for _, ahead := range []string{"", "\x80", "xyz"} {
			for _, behind := range []string{"", "\x80", "xyz"} {
				whole := ahead + impl.PutText(text) + behind
				want := impl.TextOut{Text: text, At: int64(len(whole) - len(behind))}
				if len(whole) > impl.MaxBytes {
					want = impl.TextOut{Code: impl.ErrSize}
				}
				got := impl.GetText(whole, int64(len(ahead)))
				if got != want {
					t.Errorf("GetText of %d bytes behind %x, ahead of %x: code %d", n, ahead, behind, got.Code)
				}
				if shares(got.Text, whole) {
					t.Errorf("GetText of %d bytes shares memory with its argument", n)
				}
			}
		}
	}
	if got := impl.GetText(impl.PutText(textOf(impl.MaxBytes)), 0); got != (impl.TextOut{Code: impl.ErrSize}) {
		t.Errorf("GetText of the bytes of MaxBytes: code %d", got.Code)
	}
}

func TestGetTextFaults(t *testing.T) {
	for _, c := range []struct {
		what string
		text string
		at   int64
		code int64
	}{
		{"a length below 0", "\x01abc", 0, impl.ErrSyntax},
		{"the least length", impl.PutNum(math.MinInt64) + "abc", 0, impl.ErrSyntax},
		{"the greatest length", impl.PutNum(math.MaxInt64) + "abc", 0, impl.ErrSyntax},
		{"a length of more than MaxBytes", impl.PutNum(impl.MaxBytes+1) + "abc", 0, impl.ErrSyntax},
		{"a length of MaxBytes", impl.PutNum(impl.MaxBytes) + "abc", 0, impl.ErrShort},
		{"MaxBytes less 2 of MaxBytes", impl.PutNum(impl.MaxBytes) + textOf(impl.MaxBytes-2), 0, impl.ErrShort},
		{"none of one byte", "\x02", 0, impl.ErrShort},
		{"two of three bytes", "\x06ab", 0, impl.ErrShort},
		{"two of three bytes, behind others", "xyz\x06ab", 3, impl.ErrShort},
		{"a length with a byte too many", "\x82\x00a", 0, impl.ErrSyntax},
		{"half a length", "ab\x80", 2, impl.ErrShort},
	} {
		if got := impl.GetText(c.text, c.at); got != (impl.TextOut{Code: c.code}) {
			t.Errorf("GetText of %s: %+v, not the code %d", c.what, got, c.code)
		}
	}
	whole := impl.PutText(textOf(200))
	for i := range len(whole) {
		if got := impl.GetText(whole[:i], 0); got != (impl.TextOut{Code: impl.ErrShort}) {
			t.Errorf("GetText of the first %d bytes: %+v", i, got)
		}
	}
}

func TestNameRight(t *testing.T) {
	for _, c := range []struct {
		text string
		want bool
	}{
		{"", false},
		{"a", true},
		{"z", true},
		{"a_9", true},
		{"az09_", true},
		{"_a", false},
		{"0a", false},
		{"a b", false},
		{"a-b", false},
		{"aB", false},
		{"a\n", false},
		{"\u00e4", false},
		{"a\u00e4", false},
		{strings.Repeat("a", 20), true},
		{strings.Repeat("a", 21), false},
		{strings.Repeat("a", 19) + "_", true},
		{strings.Repeat("a", 19) + "-", false},
		{strings.Repeat("a", impl.MaxBytes+1), false},
	} {
		if got := impl.NameRight(c.text); got != c.want {
			t.Errorf("NameRight(%q) is %v", c.text, got)
		}
	}
	for i := range 256 {
		b := string([]byte{byte(i)})
		first := strings.Contains("abcdefghijklmnopqrstuvwxyz", b)
		other := first || strings.Contains("0123456789_", b)
		if impl.NameRight(b) != first || impl.NameRight("a"+b) != other || impl.NameRight("a"+b+"a") != other {
			t.Errorf("NameRight of the byte %d is wrong", i)
		}
	}
}

func TestCrc(t *testing.T) {
	if got := impl.Crc("123456789"); got != 0xcbf43926 {
		t.Errorf("Crc of 123456789 is %x", got)
	}
	for _, n := range []int{0, 1, 2, 3, 4, 5, 255, 256, 1000, impl.MaxBytes - 1, impl.MaxBytes} {
		text := textOf(n)
		if got, want := impl.Crc(text), int64(crc32.ChecksumIEEE([]byte(text))); got != want {
			t.Errorf("Crc of %d bytes is %x, not %x", n, got, want)
		}
	}
	for i := range 256 {
		if got, want := impl.Crc(string([]byte{byte(i)})), int64(crc32.ChecksumIEEE([]byte{byte(i)})); got != want {
			t.Errorf("Crc of the byte %d is %x, not %x", i, got, want)
		}
	}
	if got := impl.Crc(textOf(impl.MaxBytes + 1)); got != 0 {
		t.Errorf("Crc of more than MaxBytes is %x", got)
	}
}

// Promise 2, of CRCs: they go on from text to text.
func TestCrcGoesOn(t *testing.T) {
	whole := textOf(300)
	for i := range len(whole) + 1 {
		if got := impl.CrcMore(impl.Crc(whole[:i]), whole[i:]); got != impl.Crc(whole) {
			t.Errorf("CrcMore from %d on is %x", i, got)
		}
		if got := impl.CrcMore(0, whole[:i]); got != impl.Crc(whole[:i]) {
			t.Errorf("CrcMore of nothing and %d bytes is %x", i, got)
		}
	}
	long := textOf(impl.MaxBytes)
	if got, want := impl.CrcMore(impl.Crc(long), long), int64(crc32.ChecksumIEEE([]byte(long+long))); got != want {
		t.Errorf("CrcMore of two texts of MaxBytes is %x, not %x", got, want)
	}
	for _, crc := range []int64{0, 1, 1 << 31, 1<<32 - 2, 1<<32 - 1} {
		if got := impl.CrcMore(crc, ""); got != crc {
			t.Errorf("CrcMore of %x and nothing is %x", crc, got)
		}
		want := int64(crc32.Update(uint32(crc), crc32.IEEETable, []byte("abc")))
		if got := impl.CrcMore(crc, "abc"); got != want {
			t.Errorf("CrcMore of %x and abc is %x, not %x", crc, got, want)
		}
		if got := impl.CrcMore(crc, textOf(impl.MaxBytes+1)); got != 0 {
			t.Errorf("CrcMore of %x and more than MaxBytes is %x", crc, got)
		}
	}
	for _, crc := range []int64{-1, -2, 1 << 32, 1<<32 + 1, 1 << 40, math.MinInt64, math.MaxInt64} {
		for _, text := range []string{"", "abc"} {
			if got := impl.CrcMore(crc, text); got != 0 {
				t.Errorf("CrcMore of %d and %q is %x", crc, text, got)
			}
		}
	}
}

func TestSeal(t *testing.T) {
	if got := impl.Seal("123456789"); got != "123456789\x26\x39\xf4\xcb" {
		t.Errorf("Seal of 123456789 is %x", got)
	}
	if got := impl.Seal(""); got != "\x00\x00\x00\x00" {
		t.Errorf("Seal of nothing is %x", got)
	}
	for _, n := range []int{impl.MaxBytes - 3, impl.MaxBytes, impl.MaxBytes + 1} {
		if got := impl.Seal(textOf(n)); got != "" {
			t.Errorf("Seal of %d bytes has %d", n, len(got))
		}
	}
}

// Promise 2, of seals: the text comes back, and nothing beside it.
func TestSealedComesBack(t *testing.T) {
	for _, n := range []int{0, 1, 3, 4, 5, 100, impl.MaxBytes - 5, impl.MaxBytes - 4} {
		text := textOf(n)
		sealed := impl.Seal(text)
		if len(sealed) != n+4 {
			t.Errorf("Seal of %d bytes has %d", n, len(sealed))
		}
		got := impl.Unseal(sealed)
		if got != (impl.TextOut{Text: text}) {
			t.Errorf("Unseal of %d bytes: At %d, code %d", n, got.At, got.Code)
		}
		if shares(got.Text, sealed) || shares(sealed, text) {
			t.Errorf("a seal of %d bytes shares memory", n)
		}
	}
}

// Promise 2, of seals: one byte turned is seen, wherever it stands, and however it is turned.
func TestTurnedSealIsRefused(t *testing.T) {
	for _, n := range []int{0, 1, 2, 30} {
		sealed := impl.Seal(textOf(n))
		for i := range len(sealed) {
			for turn := 1; turn < 256; turn++ {
				b := []byte(sealed)
				b[i] ^= byte(turn)
				if got := impl.Unseal(string(b)); got != (impl.TextOut{Code: impl.ErrSum}) {
					t.Fatalf("byte %d of a seal of %d turned by %d: %+v", i, n, turn, got)
				}
			}
		}
	}
	long := []byte(impl.Seal(textOf(impl.MaxBytes - 4)))
	for _, i := range []int{0, 4000, impl.MaxBytes - 5, impl.MaxBytes - 4, impl.MaxBytes - 1} {
		long[i] ^= 1
		if got := impl.Unseal(string(long)); got != (impl.TextOut{Code: impl.ErrSum}) {
			t.Errorf("byte %d of a seal of MaxBytes turned: At %d, code %d", i, got.At, got.Code)
		}
		long[i] ^= 1
	}
}

func TestUnsealFaults(t *testing.T) {
	whole := textOf(impl.MaxBytes - 3)
	crc := impl.Crc(whole)
	tooLong := whole + string([]byte{byte(crc), byte(crc >> 8), byte(crc >> 16), byte(crc >> 24)})
	sealed := impl.Seal("abcdef")
	for _, c := range []struct {
		what string
		text string
		code int64
	}{
		{"nothing", "", impl.ErrShort},
		{"one byte", "\x00", impl.ErrShort},
		{"three bytes", "\x00\x00\x00", impl.ErrShort},
		{"four bytes that are no CRC of nothing", "\x00\x00\x00\x01", impl.ErrSum},
		{"five bytes 0", "\x00\x00\x00\x00\x00", impl.ErrSum},
		{"a CRC with the highest byte first", "123456789\xcb\xf4\x39\x26", impl.ErrSum},
		{"a seal without its last byte", sealed[:len(sealed)-1], impl.ErrSum},
		{"a seal without its first byte", sealed[1:], impl.ErrSum},
		{"a seal with a byte behind it", sealed + "\x00", impl.ErrSum},
		{"MaxBytes that are no seal", textOf(impl.MaxBytes), impl.ErrSum},
		{"more than MaxBytes, the last four the CRC", tooLong, impl.ErrSize},
		{"more than MaxBytes", textOf(impl.MaxBytes + 1), impl.ErrSize},
	} {
		if got := impl.Unseal(c.text); got != (impl.TextOut{Code: c.code}) {
			t.Errorf("Unseal of %s: At %d, code %d, not %d", c.what, got.At, got.Code, c.code)
		}
	}
}
