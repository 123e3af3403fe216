package tests

import (
	"encoding/binary"
	"fmt"
	"math"
	"slices"
	"strings"
	"testing"

	"loop.example/g00626/impl"
)

// textByOther is a text as it stands behind numbers, made by other means.
func textByOther(text string) string {
	return string(binary.AppendVarint(nil, int64(len(text)))) + text
}

// frameNums are the numbers of a frame, in the order in which they are written.
func frameNums(f impl.Frame) []int64 {
	return []int64{f.Object, f.Group, f.Groups, f.Need, f.More, f.Size, f.Shard.Index}
}

// frameByOther are the bytes of a frame, right or not, made by other means.
func frameByOther(f impl.Frame) string {
	return sealedNums(textByOther(f.Shard.Data), frameNums(f)...)
}

// frameOf is a frame that is right, if its numbers are: its Data has the length that its Need and Size ask for.
func frameOf(object int64, group int64, groups int64, need int64, more int64, size int64, index int64) impl.Frame {
	length := int64(0)
	if need > 0 && need < 1000 && size > 0 && size < 1000 {
		length = (size + need - 1) / need
	}
	shard := impl.Shard{Index: index, Data: textOf(int(length) + 5)[5:]}
	return impl.Frame{Object: object, Group: group, Groups: groups, Need: need, More: more, Size: size, Shard: shard}
}

// someFrame is a right frame of which no two numbers are the same.
func someFrame() impl.Frame {
	return frameOf(300, 5, 8, 3, 2, 70, 4)
}

type frameCase struct {
	what  string
	frame impl.Frame
	right bool
}

// rangeCases are frames made of the numbers from one below the least to one above the greatest that may be, and some far away.
func rangeCases(what string, least int64, greatest int64, frame func(n int64) impl.Frame) []frameCase {
	var l []frameCase
	for _, n := range []int64{math.MinInt64, math.MinInt64 + 1, -1 << 32, -256, -2, -1, 0, 1, least - 1, least, least + 1, greatest - 1,
		greatest, greatest + 1, 256, 1 << 32, 1<<32 + 1, 1<<32 + least, 1<<32 + greatest, math.MaxInt64 - 1, math.MaxInt64} {
		l = append(l, frameCase{fmt.Sprintf("%s of %d", what, n), frame(n), n >= least && n <= greatest})
	}
	return l
}

// numberCases are frames of which one number lies at the edges.
func numberCases() []frameCase {
	l := rangeCases("Object", 1, impl.MaxTime, func(n int64) impl.Frame { return frameOf(n, 5, 8, 3, 2, 70, 4) })
	l = append(l, rangeCases("Groups, the Group 0", 1, impl.MaxGroups, func(n int64) impl.Frame { return frameOf(300, 0, n, 3, 2, 70, 4) })...)
	l = append(l, rangeCases("Groups, the Group 5", 6, impl.MaxGroups, func(n int64) impl.Frame { return frameOf(300, 5, n, 3, 2, 70, 4) })...)
	for groups := int64(1); groups <= impl.MaxGroups; groups++ {
		what := fmt.Sprintf("%d Groups, Group", groups)
		l = append(l, rangeCases(what, 0, groups-1, func(n int64) impl.Frame { return frameOf(300, n, groups, 3, 2, 70, 4) })...)
	}
	l = append(l, rangeCases("Need", 1, impl.MaxNeed, func(n int64) impl.Frame { return frameOf(300, 5, 8, n, 2, 70, 0) })...)
	l = append(l, rangeCases("Need, no More", 1, impl.MaxNeed, func(n int64) impl.Frame { return frameOf(300, 5, 8, n, 0, 70, 0) })...)
	l = append(l, rangeCases("More", 0, impl.MaxMore, func(n int64) impl.Frame { return frameOf(300, 5, 8, 3, n, 70, 0) })...)
	for need := int64(1); need <= impl.MaxNeed; need++ {
		what := fmt.Sprintf("Need of %d, Size", need)
		l = append(l, rangeCases(what, 1, impl.MaxGroup, func(n int64) impl.Frame { return frameOf(300, 5, 8, need, 2, n, 0) })...)
		for more := int64(0); more <= impl.MaxMore; more++ {
			what := fmt.Sprintf("Need of %d, More of %d, Index", need, more)
			l = append(l, rangeCases(what, 0, need+more-1, func(n int64) impl.Frame { return frameOf(300, 5, 8, need, more, 70, n) })...)
		}
	}
	return l
}

// dataCases are frames of which the Data has some length.
func dataCases() []frameCase {
	var l []frameCase
	for need := int64(1); need <= impl.MaxNeed; need++ {
		for _, size := range groupSizes(int(need)) {
			right := (size + int(need) - 1) / int(need)
			for _, length := range []int{0, 1, right - 1, right, right + 1, size, size + 1, impl.MaxGroup, 7000} {
				f := frameOf(300, 5, 8, need, 2, int64(size), need)
				f.Shard.Data = textOf(length)
				l = append(l, frameCase{fmt.Sprintf("Need of %d, Size of %d, %d bytes", need, size, length), f, length == right})
			}
		}
	}
	return l
}

// mixedCases are the zero frame, and frames of which more than one thing may not be.
func mixedCases() []frameCase {
	one := frameOf(1, 0, 1, 1, 0, 1, 0)
	noData := one
	noData.Shard.Data = ""
	return []frameCase{
		{"nothing", impl.Frame{}, false},
		{"the least of all", one, true},
		{"the greatest of all", frameOf(impl.MaxTime, impl.MaxGroups-1, impl.MaxGroups, impl.MaxNeed, impl.MaxMore, impl.MaxGroup, impl.MaxNeed+impl.MaxMore-1), true},
		{"the least of all, without Data", noData, false},
		{"Group and Groups of 0", frameOf(1, 0, 0, 1, 0, 1, 0), false},
		{"Group of -1, Groups of 0", frameOf(1, -1, 0, 1, 0, 1, 0), false},
		{"Group of 9, Groups of 10", frameOf(1, 9, 10, 1, 0, 1, 0), false},
		{"Need of 7, More of 3", frameOf(1, 0, 1, 7, 3, 1, 9), false},
		{"Need of 5, More of 5", frameOf(1, 0, 1, 5, 5, 1, 9), false},
		{"Need of 0, More of 3", frameOf(1, 0, 1, 0, 3, 1, 1), false},
		{"Need of 3, More of -1", frameOf(1, 0, 1, 3, -1, 1, 1), false},
		{"Size of 0, no Data", frameOf(1, 0, 1, 1, 0, 0, 0), false},
		{"the greatest numbers", frameOf(math.MaxInt64, math.MaxInt64-1, math.MaxInt64, math.MaxInt64, math.MaxInt64, math.MaxInt64, math.MaxInt64), false},
		{"the least numbers", frameOf(math.MinInt64, math.MinInt64, math.MinInt64, math.MinInt64, math.MinInt64, math.MinInt64, math.MinInt64), false},
	}
}

func frameCases() []frameCase {
	return append(append(numberCases(), dataCases()...), mixedCases()...)
}

// cutByOther are the bytes of all frames of a body, made by other means.
func cutByOther(f field, object int64, body string, need int, more int) []string {
	var told []string
	groups := (len(body) + 99) / 100
	for group := range groups {
		text := body[100*group : min(100*group+100, len(body))]
		for i, piece := range spreadByOther(f, text, need, more) {
			told = append(told, frameByOther(impl.Frame{Object: object, Group: int64(group), Groups: int64(groups), Need: int64(need),
				More: int64(more), Size: int64(len(text)), Shard: impl.Shard{Index: int64(i), Data: piece}}))
		}
	}
	return told
}

// bodySizes are the sizes at which a group more is needed, those beside them, and some between.
func bodySizes() []int {
	l := []int{1, 2, 7, 50}
	for n := impl.MaxGroup; n <= impl.MaxGroups*impl.MaxGroup; n += impl.MaxGroup {
		l = append(l, n-1, n, n+1)
	}
	return append(l[:len(l)-1], 333)
}

// framesRead are the frames of which these are the bytes.
func framesRead(t *testing.T, l []string) []impl.Frame {
	t.Helper()
	var frames []impl.Frame
	for i, text := range l {
		got := impl.FrameRead(text)
		if got.Code != impl.OK {
			t.Fatalf("the %d. of what is cut is not read: code %d", i, got.Code)
		}
		frames = append(frames, got.Frame)
	}
	return frames
}

// bodyOf is what the frames make, group by group, of each one those pieces of which the bits are set.
func bodyOf(t *testing.T, frames []impl.Frame, bits func(group int64) int) string {
	t.Helper()
	body := ""
	for group := range frames[0].Groups {
		var l []impl.Shard
		var of impl.Frame
		for _, f := range frames {
			if f.Group == group && bits(group)>>f.Shard.Index&1 == 1 {
				l, of = append(l, f.Shard), f
			}
		}
		got := impl.Gather(of.Need, of.More, of.Size, l)
		if got.Code != impl.OK {
			t.Fatalf("the group %d of %d is not gathered of %b: code %d", group, frames[0].Groups, bits(group), got.Code)
		}
		body += got.Text
	}
	return body
}

// choices are all sets of so many of so many pieces, as bits.
func choices(many int, all int) []int {
	var l []int
	for bits := range 1 << all {
		ones := 0
		for i := range all {
			ones += bits >> i & 1
		}
		if ones == many {
			l = append(l, bits)
		}
	}
	return l
}

func TestFrameConstants(t *testing.T) {
	if impl.MaxGroups != 9 {
		t.Error("MaxGroups is another one")
	}
}

func TestKnownFrames(t *testing.T) {
	for _, c := range []struct {
		frame impl.Frame
		want  string
	}{
		{impl.Frame{Object: 1, Groups: 1, Need: 1, Size: 1, Shard: impl.Shard{Data: "x"}}, "\x02\x00\x02\x02\x00\x02\x00\x02x"},
		{impl.Frame{Object: 1, Groups: 1, Need: 2, More: 1, Size: 3, Shard: impl.Shard{Data: "ab"}}, "\x02\x00\x02\x04\x02\x06\x00\x04ab"},
		{impl.Frame{Object: 64, Group: 7, Groups: 9, Need: 6, More: 4, Size: 100, Shard: impl.Shard{Index: 9, Data: textOf(17)}},
			"\x80\x01\x0e\x12\x0c\x08\xc8\x01\x12\x22" + textOf(17)},
		{impl.Frame{Object: impl.MaxTime, Groups: 1, Need: 1, Size: 1, Shard: impl.Shard{Data: "\x00"}}, "\x80\x89\x7a\x00\x02\x02\x00\x02\x00\x02\x00"},
	} {
		if got := impl.FrameBytes(c.frame); got != sealedByOther(c.want) {
			t.Errorf("FrameBytes of %+v is %x, not the seal of %x", c.frame, got, c.want)
		}
		if got := impl.FrameRead(sealedByOther(c.want)); got != (impl.FrameOut{Frame: c.frame}) {
			t.Errorf("FrameRead of the seal of %x is %+v, not %+v", c.want, got, c.frame)
		}
	}
}

// Promise 9: a frame comes back from its bytes; one that is not right has none, and what would be these is refused.
func TestFrameOfEachEdge(t *testing.T) {
	for _, c := range frameCases() {
		if got := impl.FrameRight(c.frame); got != c.right {
			t.Errorf("a frame of %s: FrameRight is %v", c.what, got)
		}
		text, wantText, wantOut := frameByOther(c.frame), "", impl.FrameOut{Code: impl.ErrSyntax}
		if c.right {
			wantText, wantOut = text, impl.FrameOut{Frame: c.frame}
		}
		if got := impl.FrameBytes(c.frame); got != wantText {
			t.Errorf("a frame of %s: FrameBytes is %x, not %x", c.what, got, wantText)
		}
		if got := impl.FrameRead(text); got != wantOut {
			t.Errorf("a frame of %s is read as %+v", c.what, got)
		}
	}
}

// Data of more than MaxBytes bytes is a field: its frame is not right, and no more.
func TestFrameOfTooMuchData(t *testing.T) {
	for _, bytes := range []int{impl.MaxBytes, impl.MaxBytes + 1, 3 * impl.MaxBytes} {
		f := someFrame()
		f.Shard.Data = textOf(bytes)
		if impl.FrameRight(f) || impl.FrameBytes(f) != "" {
			t.Errorf("a frame with %d bytes of Data is right, or has bytes", bytes)
		}
	}
}

// Promise 9, of each Need, More, Size and Index.
func TestFrameComesBack(t *testing.T) {
	for need := int64(1); need <= impl.MaxNeed; need++ {
		for more := int64(0); more <= impl.MaxMore; more++ {
			for size := int64(1); size <= impl.MaxGroup; size++ {
				for index := range need + more {
					f := frameOf(size*9973, size%impl.MaxGroups, impl.MaxGroups, need, more, size, index)
					text := impl.FrameBytes(f)
					if !impl.FrameRight(f) || text != frameByOther(f) {
						t.Fatalf("%+v is not right, or has the bytes %x", f, text)
					}
					if got := impl.FrameRead(text); got != (impl.FrameOut{Frame: f}) {
						t.Fatalf("%+v comes back as %+v", f, got)
					}
				}
			}
		}
	}
}

// No two frames have the same bytes: each number, and the Data, is told by them.
func TestFrameBytesTellAll(t *testing.T) {
	seen := map[string]impl.Frame{}
	for _, c := range frameCases() {
		if text := impl.FrameBytes(c.frame); text != "" {
			if other, there := seen[text]; there && other != c.frame {
				t.Errorf("%+v and %+v have the same bytes", other, c.frame)
			}
			seen[text] = c.frame
		}
	}
	if len(seen) < 100 {
		t.Errorf("only %d frames have bytes", len(seen))
	}
}

func TestTurnedFrameIsRefused(t *testing.T) {
	for _, f := range []impl.Frame{frameOf(1, 0, 1, 1, 0, 1, 0), someFrame(), frameOf(impl.MaxTime, 8, 9, 6, 4, 100, 9)} {
		text := impl.FrameBytes(f)
		for at := range len(text) {
			for by := 1; by < 256; by++ {
				if got := impl.FrameRead(turned(text, at, byte(by))); got != (impl.FrameOut{Code: impl.ErrSum}) {
					t.Fatalf("%+v, turned at %d by %d, is read as %+v", f, at, by, got)
				}
			}
		}
		for most := range len(text) {
			want := impl.FrameOut{Code: impl.ErrSum}
			if most < 4 {
				want.Code = impl.ErrShort
			}
			if got := impl.FrameRead(text[:most]); got != want {
				t.Errorf("%+v, its first %d bytes, are read as %+v", f, most, got)
			}
		}
	}
}

// Each byte of what is sealed turned, and sealed again: what is then read has these bytes, or is refused.
func TestTurnedAndSealedFrame(t *testing.T) {
	text := impl.FrameBytes(someFrame())
	inner := text[:len(text)-4]
	refused := 0
	for at := range len(inner) {
		for by := 1; by < 256; by++ {
			other := sealedByOther(turned(inner, at, byte(by)))
			got := impl.FrameRead(other)
			if got == (impl.FrameOut{Code: impl.ErrSyntax}) {
				refused++
				continue
			}
			if got.Code != impl.OK || got.Frame == someFrame() || !impl.FrameRight(got.Frame) || frameByOther(got.Frame) != other {
				t.Fatalf("turned at %d by %d, and sealed: %+v", at, by, got)
			}
		}
	}
	if refused == 0 {
		t.Error("nothing that is turned and sealed is refused")
	}
}

// longNum is a number in one byte more than is needed.
func longNum(n int64) string {
	b := binary.AppendVarint(nil, n)
	b[len(b)-1] |= 128
	return string(b) + "\x00"
}

type frameFault struct {
	what string
	text string
	code int64
}

// frameFaults are texts that are no frames, in the order of the faults.
func frameFaults() []frameFault {
	f := someFrame()
	text := frameByOther(f)
	inner := text[:len(text)-4]
	nine := strings.Repeat("\x80", 9)
	nums := frameNums(f)
	tooLong := inner + textOf(impl.MaxBytes-3-len(inner))
	l := []frameFault{
		{"more than MaxBytes bytes", textOf(impl.MaxBytes + 1), impl.ErrSize},
		{"more than MaxBytes bytes, sealed", sealedByOther(tooLong), impl.ErrSize},
		{"many bytes ahead of a frame", textOf(impl.MaxBytes) + text, impl.ErrSize},
		{"nothing", "", impl.ErrShort},
		{"one byte", "\x00", impl.ErrShort},
		{"three bytes", "\x00\x00\x00", impl.ErrShort},
		{"four bytes, no seal", "\x00\x00\x00\x01", impl.ErrSum},
		{"MaxBytes bytes, no seal", textOf(impl.MaxBytes), impl.ErrSum},
		{"a frame that is not sealed", inner, impl.ErrSum},
		{"a frame with its sum turned around", inner + string([]byte{text[len(text)-1], text[len(text)-2], text[len(text)-3], text[len(text)-4]}), impl.ErrSum},
		{"a byte ahead of a frame", "\x00" + text, impl.ErrSum},
		{"a byte behind a frame", text + "\x00", impl.ErrSum},
		{"the sealed nothing", sealedByOther(""), impl.ErrSyntax},
		{"MaxBytes bytes, sealed", sealedByOther(tooLong[:impl.MaxBytes-4]), impl.ErrSyntax},
		{"a byte 0 behind the Data, sealed", sealedByOther(inner + "\x00"), impl.ErrSyntax},
		{"a byte 128 behind the Data, sealed", sealedByOther(inner + "\x80"), impl.ErrSyntax},
		{"the frame again behind the Data, sealed", sealedByOther(inner + inner), impl.ErrSyntax},
		{"a frame sealed twice", sealedByOther(text), impl.ErrSyntax},
		{"a byte ahead of all, sealed", sealedByOther("\x00" + inner), impl.ErrSyntax},
		{"no Data, nor its length", sealedNums("", nums...), impl.ErrSyntax},
		{"no Index", sealedNums(textByOther(f.Shard.Data), nums[:6]...), impl.ErrSyntax},
		{"a number too many", sealedNums(textByOther(f.Shard.Data), append(nums, 0)...), impl.ErrSyntax},
		{"a length below 0", sealedNums("\x01"+f.Shard.Data, nums...), impl.ErrSyntax},
		{"a length of more than MaxBytes", sealedNums(string(binary.AppendVarint(nil, impl.MaxBytes+1))+f.Shard.Data, nums...), impl.ErrSyntax},
		{"a length in more bytes than are needed", sealedNums(longNum(int64(len(f.Shard.Data)))+f.Shard.Data, nums...), impl.ErrSyntax},
		{"the Data without its length", sealedNums(f.Shard.Data, nums...), impl.ErrSyntax},
		{"the Data as long as the Size", sealedNums(textByOther(textOf(int(f.Size))), nums...), impl.ErrSyntax},
	}
	for most := range len(inner) {
		l = append(l, frameFault{fmt.Sprintf("the first %d bytes, sealed", most), sealedByOther(inner[:most]), impl.ErrSyntax})
	}
	for i := range nums {
		ahead, behind := "", ""
		for j, n := range nums {
			if j < i {
				ahead += string(binary.AppendVarint(nil, n))
			} else if j > i {
				behind += string(binary.AppendVarint(nil, n))
			}
		}
		behind += textByOther(f.Shard.Data)
		for _, wrong := range []string{longNum(nums[i]), "\x80\x00", nine + "\x02", nine + "\x80\x01", "\x80", ""} {
			l = append(l, frameFault{fmt.Sprintf("the number %d as %x", i, wrong), sealedByOther(ahead + wrong + behind), impl.ErrSyntax})
		}
	}
	return l
}

func TestFrameReadFaults(t *testing.T) {
	for _, c := range frameFaults() {
		if got := impl.FrameRead(c.text); got != (impl.FrameOut{Code: c.code}) {
			t.Errorf("FrameRead of %s: %+v, not the code %d", c.what, got, c.code)
		}
	}
}

func TestKnownCuts(t *testing.T) {
	l := impl.Cut(7, "abc", 2, 1)
	want := []string{
		sealedByOther("\x0e\x00\x02\x04\x02\x06\x00\x04ab"),
		sealedByOther("\x0e\x00\x02\x04\x02\x06\x02\x04c\x00"),
		sealedByOther("\x0e\x00\x02\x04\x02\x06\x04\x04e\xa6"),
	}
	if !slices.Equal(l, want) {
		t.Errorf("abc is cut as %q, not %q", l, want)
	}
	body := textOf(101)
	l = impl.Cut(impl.MaxTime, body, 1, 0)
	want = []string{
		sealedByOther("\x80\x89\x7a\x00\x04\x02\x00\xc8\x01\x00\xc8\x01" + body[:100]),
		sealedByOther("\x80\x89\x7a\x02\x04\x02\x00\x02\x00\x02" + body[100:]),
	}
	if !slices.Equal(l, want) {
		t.Errorf("101 bytes are cut as %q, not %q", l, want)
	}
}

func TestCutOfEachKind(t *testing.T) {
	f := fieldByOther()
	for need := 1; need <= impl.MaxNeed; need++ {
		for more := 0; more <= impl.MaxMore; more++ {
			for i, size := range bodySizes() {
				object, body := int64(1+i*i), textOf(size)
				got := impl.Cut(object, body, int64(need), int64(more))
				if want := cutByOther(f, object, body, need, more); !slices.Equal(got, want) {
					t.Fatalf("%d bytes, cut to %d and %d, are %d frames, not the %d that they should be", size, need, more, len(got), len(want))
				}
			}
		}
	}
}

// Promise 9: of a body of each size each group comes back, from the first, and from the last pieces that are needed.
func TestCutOfEachSize(t *testing.T) {
	for size := 1; size <= impl.MaxGroups*impl.MaxGroup; size++ {
		body := textOf(size)
		l := impl.Cut(int64(size), body, 3, 2)
		groups := (size + impl.MaxGroup - 1) / impl.MaxGroup
		if len(l) != 5*groups {
			t.Fatalf("%d bytes are cut to %d frames", size, len(l))
		}
		frames := framesRead(t, l)
		for i, f := range frames {
			want := impl.Frame{Object: int64(size), Group: int64(i / 5), Groups: int64(groups), Need: 3, More: 2,
				Size: int64(min(impl.MaxGroup, size-i/5*impl.MaxGroup)), Shard: impl.Shard{Index: int64(i % 5), Data: f.Shard.Data}}
			if f != want {
				t.Fatalf("%d bytes, the frame %d is %+v", size, i, f)
			}
		}
		for _, bits := range []int{7, 28} {
			if bodyOf(t, frames, func(int64) int { return bits }) != body {
				t.Fatalf("%d bytes do not come back of the pieces %b", size, bits)
			}
		}
	}
}

// Promise 9, of each choice of as many pieces as are needed, and of another choice in each group.
func TestCutComesBackFromEachChoice(t *testing.T) {
	for need := 1; need <= impl.MaxNeed; need++ {
		for more := 0; more <= impl.MaxMore; more++ {
			for _, size := range []int{1, 99, 100, 101, 250, impl.MaxGroups * impl.MaxGroup} {
				body := textOf(size + 7)[7:]
				frames := framesRead(t, impl.Cut(9, body, int64(need), int64(more)))
				sets := choices(need, need+more)
				step := 1
				if size > 300 {
					step = 1 + len(sets)/10
				}
				for i := 0; i < len(sets); i += step {
					same := func(int64) int { return sets[i] }
					other := func(group int64) int { return sets[(i+int(group)*5)%len(sets)] }
					if bodyOf(t, frames, same) != body || bodyOf(t, frames, other) != body {
						t.Fatalf("%d bytes of %d and %d do not come back of the pieces %b", size, need, more, sets[i])
					}
				}
			}
		}
	}
}

// A byte more or less than may be, and whatever else is cut to none.
func TestCutRefuses(t *testing.T) {
	most := impl.MaxGroups * impl.MaxGroup
	far := []int64{math.MinInt64, math.MinInt64 + 1, -1 << 32, -1, 1<<32 + 1, 1<<32 + 3, math.MaxInt64 - 1, math.MaxInt64}
	type cutCase struct {
		object int64
		bytes  int
		need   int64
		more   int64
	}
	var cases []cutCase
	for _, n := range append(far, 0, impl.MaxTime+1) {
		cases = append(cases, cutCase{n, 250, 3, 2}, cutCase{n, 1, 1, 0})
	}
	for _, n := range append(far, 0, impl.MaxNeed+1) {
		cases = append(cases, cutCase{1, 250, n, 2}, cutCase{1, 1, n, 0})
	}
	for _, n := range append(far, impl.MaxMore+1) {
		cases = append(cases, cutCase{1, 250, 3, n}, cutCase{1, 1, 1, n}, cutCase{1, 1, 6, n})
	}
	for _, n := range []int{0, most + 1, most + impl.MaxGroup, impl.MaxBytes, impl.MaxBytes + 1, 3 * impl.MaxBytes} {
		cases = append(cases, cutCase{1, n, 3, 2}, cutCase{1, n, 1, 0}, cutCase{0, n, 0, -1})
	}
	for _, c := range cases {
		if got := impl.Cut(c.object, textOf(c.bytes), c.need, c.more); len(got) != 0 {
			t.Errorf("%+v is cut to %d frames", c, len(got))
		}
	}
}

func TestCutEdges(t *testing.T) {
	most := impl.MaxGroups * impl.MaxGroup
	for _, object := range []int64{1, impl.MaxTime} {
		for _, size := range []int{1, impl.MaxGroup, impl.MaxGroup + 1, most - 1, most} {
			for _, need := range []int64{1, impl.MaxNeed} {
				for _, more := range []int64{0, impl.MaxMore} {
					want := (size + impl.MaxGroup - 1) / impl.MaxGroup * int(need+more)
					l := impl.Cut(object, textOf(size), need, more)
					if len(l) != want {
						t.Errorf("an object %d of %d bytes is cut to %d and %d: %d frames, not %d", object, size, need, more, len(l), want)
						continue
					}
					for _, f := range framesRead(t, l) {
						if f.Object != object || f.Need != need || f.More != more {
							t.Errorf("an object %d of %d bytes, cut to %d and %d, has the frame %+v", object, size, need, more, f)
						}
					}
				}
			}
		}
	}
}

// Bytes of any kind are cut, 0 and those that are no runes among them.
func TestCutOfAnyBytes(t *testing.T) {
	all := make([]byte, 256)
	for i := range all {
		all[i] = byte(i)
	}
	for _, body := range []string{"\x00", "\x00\x00\x00\x00", "a\x00\x00", "\xff", strings.Repeat("\xff", 250), strings.Repeat("\x00", 900),
		string(all), "\u00e4\u20ac\U0001f600", "\xe2\x82"} {
		frames := framesRead(t, impl.Cut(1, body, 2, 2))
		for _, bits := range choices(2, 4) {
			if got := bodyOf(t, frames, func(int64) int { return bits }); got != body {
				t.Errorf("%q comes back of the pieces %b as %q", body, bits, got)
			}
		}
	}
}

// No answer lies where an argument or another answer does.
func TestFramesShareNothing(t *testing.T) {
	f := frameOf(300, 5, 8, 1, 2, 100, 1)
	text := impl.FrameBytes(f)
	first, second := impl.FrameRead(text), impl.FrameRead(text)
	if shares(text, f.Shard.Data) || shares(text, impl.FrameBytes(f)) {
		t.Error("the bytes of a frame share memory")
	}
	if shares(first.Frame.Shard.Data, text) || shares(first.Frame.Shard.Data, second.Frame.Shard.Data) {
		t.Error("a frame that is read shares memory")
	}
	body := textOf(250)
	for need := int64(1); need <= impl.MaxNeed; need++ {
		for _, more := range []int64{0, impl.MaxMore} {
			l, again := impl.Cut(3, body, need, more), impl.Cut(3, body, need, more)
			for i, one := range l {
				if shares(one, body) || shares(one, again[i]) {
					t.Errorf("the frame %d of %d and %d shares memory", i, need, more)
				}
				for _, other := range l[:i] {
					if shares(one, other) {
						t.Errorf("the frame %d of %d and %d shares memory with another one", i, need, more)
					}
				}
			}
			clear(l[:cap(l)])
			if !slices.Equal(impl.Cut(3, body, need, more), again) || body != textOf(250) {
				t.Error("what was handed back is kept")
			}
		}
	}
}
