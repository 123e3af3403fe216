package tests

import (
	"encoding/binary"
	"hash/crc32"
	"math"
	"slices"
	"strings"
	"testing"

	"loop.example/g00626/impl"
)

// manySteps is more than any text needs.
const manySteps = 100

func sameAreaOut(a impl.AreaOut, b impl.AreaOut) bool {
	return sameDisk(a.Disk, b.Disk) && a.Text == b.Text && a.Gen == b.Gen && a.Code == b.Code
}

// sealedNums is the seal of these numbers, and of the text behind them, made by other means.
func sealedNums(behind string, nums ...int64) string {
	var b []byte
	for _, n := range nums {
		b = binary.AppendVarint(b, n)
	}
	return sealedByOther(string(b) + behind)
}

func sealedByOther(text string) string {
	return string(binary.LittleEndian.AppendUint32([]byte(text), crc32.ChecksumIEEE([]byte(text))))
}

// pieces is a text cut into sectors.
func pieces(text string) []string {
	var l []string
	for len(text) > impl.SectorSize {
		l = append(l, text[:impl.SectorSize])
		text = text[impl.SectorSize:]
	}
	if text != "" {
		l = append(l, text)
	}
	return l
}

// areaOf is a disk on which that text stands, on that side; all other sectors have something of their own.
func areaOf(sectors int, gen int64, side int64, text string) impl.Disk {
	d := diskOf(sectors, 0)
	d.Sectors[0] = sealedNums("", gen, side, int64(len(text)))
	copy(d.Sectors[1+int(side)*((sectors-1)/2):], pieces(text))
	return d
}

// roomOf is how many bytes a side of so many sectors has room for.
func roomOf(sectors int) int {
	return (sectors - 1) / 2 * impl.SectorSize
}

// headOf are the three numbers that stand in the sector 0.
func headOf(t *testing.T, d impl.Disk) (int64, int64, int64) {
	t.Helper()
	sector := impl.DiskRead(d, 0).Data
	if len(sector) < 4 || sealedByOther(sector[:len(sector)-4]) != sector {
		t.Fatalf("the sector 0 is not sealed: %x", sector)
	}
	b := []byte(sector[:len(sector)-4])
	var nums [3]int64
	for i := range nums {
		n, used := binary.Varint(b)
		if used < 1 {
			t.Fatalf("the sector 0 has no three numbers: %x", sector)
		}
		nums[i], b = n, b[used:]
	}
	if len(b) > 0 {
		t.Fatalf("the sector 0 has more than three numbers: %x", sector)
	}
	return nums[0], nums[1], nums[2]
}

// putByOther are the disks behind each of the steps of a put, from none on, as the document has them;
// the disk has the head of that gen and side, and enough room for what is pending.
func putByOther(d impl.Disk, gen int64, side int64, text string) []impl.Disk {
	now := diskCopy(d)
	told := []impl.Disk{diskCopy(now)}
	write := func(at int, data string) {
		now.Pending = append(now.Pending, impl.Pending{At: int64(at), Data: data})
		told = append(told, diskCopy(now))
	}
	flush := func() {
		now = flushedByOther(now, allKept)
		told = append(told, diskCopy(now))
	}
	start := 1 + int(1-side)*((len(d.Sectors)-1)/2)
	for i, piece := range pieces(text) {
		write(start+i, piece)
	}
	flush()
	write(0, sealedNums("", gen+1, 1-side, int64(len(text))))
	flush()
	return told
}

// formatted is a disk of so many sectors, formatted, that had something in each of them.
func formatted(t *testing.T, sectors int) impl.Disk {
	t.Helper()
	out := impl.AreaFormat(diskOf(sectors, 0))
	if out.Code != impl.OK {
		t.Fatalf("a disk of %d sectors is not formatted: code %d", sectors, out.Code)
	}
	return out.Disk
}

// edgeTexts are texts of the lengths at which something changes, of at most so many bytes.
func edgeTexts(most int) []string {
	var l []string
	for _, n := range []int{0, 1, impl.SectorSize - 1, impl.SectorSize, impl.SectorSize + 1, 2*impl.SectorSize - 1,
		2 * impl.SectorSize, 2*impl.SectorSize + 1, most - impl.SectorSize, most - 1, most} {
		if n >= 0 && n <= most {
			l = append(l, textOf(n))
		}
	}
	return l
}

func TestAreaRoom(t *testing.T) {
	for sectors := 1; sectors <= impl.MaxSectors; sectors++ {
		if got := impl.AreaRoom(diskOf(sectors, 3)); got != int64(roomOf(sectors)) {
			t.Errorf("the room of %d sectors is %d", sectors, got)
		}
	}
	for sectors, want := range map[int]int64{1: 0, 2: 0, 3: 64, 4: 64, 5: 128, 6: 128, 63: 1984, 64: 1984} {
		if got := impl.AreaRoom(impl.DiskNew(int64(sectors))); got != want {
			t.Errorf("the room of %d sectors is %d, not %d", sectors, got, want)
		}
	}
	for _, c := range wrongDisks() {
		if got := impl.AreaRoom(c.d); got != 0 {
			t.Errorf("the room of a disk of %s is %d", c.what, got)
		}
	}
}

func TestAreaFormat(t *testing.T) {
	for _, sectors := range []int{3, 4, 5, 63, impl.MaxSectors} {
		for _, pending := range []int{0, 1, 7, 198, 199} {
			d := diskOf(sectors, pending)
			want := flushedByOther(d, allKept)
			want.Sectors[0] = "\x00\x00\x00" + "\x12\xd9\x41\xff"
			if got := impl.AreaFormat(d); !sameAreaOut(got, impl.AreaOut{Disk: want}) {
				t.Errorf("AreaFormat of %d sectors, %d pending: code %d, %q", sectors, pending, got.Code, got.Disk.Sectors)
			}
			read := impl.AreaRead(impl.AreaFormat(d).Disk)
			if !sameAreaOut(read, impl.AreaOut{Disk: want}) {
				t.Errorf("AreaRead behind AreaFormat of %d sectors, %d pending: code %d", sectors, pending, read.Code)
			}
		}
	}
}

func TestAreaFormatRefuses(t *testing.T) {
	for _, c := range []struct {
		d    impl.Disk
		code int64
	}{
		{impl.DiskNew(1), impl.ErrFull},
		{impl.DiskNew(2), impl.ErrFull},
		{diskOf(1, 200), impl.ErrFull},
		{diskOf(2, 199), impl.ErrFull},
		{diskOf(3, 200), impl.ErrFull},
		{diskOf(impl.MaxSectors, 200), impl.ErrFull},
		{diskOf(2, 201), impl.ErrForm},
		{impl.Disk{Sectors: []string{textOf(65)}}, impl.ErrForm},
	} {
		if got := impl.AreaFormat(c.d); !sameAreaOut(got, impl.AreaOut{Code: c.code}) {
			t.Errorf("AreaFormat of %d sectors, %d pending: code %d, not %d", len(c.d.Sectors), len(c.d.Pending), got.Code, c.code)
		}
	}
	for _, c := range wrongDisks() {
		if got := impl.AreaFormat(c.d); !sameAreaOut(got, impl.AreaOut{Code: impl.ErrForm}) {
			t.Errorf("AreaFormat of a disk of %s: code %d", c.what, got.Code)
		}
	}
}

// Promise 5: one text after the other, longer and shorter ones, on one side and on the other.
func TestPutIsRead(t *testing.T) {
	for _, sectors := range []int{3, 4, 5, 6, 9, 63, impl.MaxSectors} {
		d := formatted(t, sectors)
		texts := edgeTexts(roomOf(sectors))
		texts = append(texts, "hello", textOf(roomOf(sectors)), "", "x", "")
		for i, text := range texts {
			gen, side, _ := headOf(t, d)
			out := impl.AreaPut(d, text, manySteps)
			steps := putByOther(d, gen, side, text)
			want := steps[len(steps)-1]
			if !sameAreaOut(out, impl.AreaOut{Disk: want}) || !impl.DiskRight(out.Disk) {
				t.Fatalf("put %d, of %d bytes to %d sectors: code %d, gen %d, %q", i, len(text), sectors, out.Code, out.Gen, out.Disk.Sectors)
			}
			read := impl.AreaRead(out.Disk)
			if !sameAreaOut(read, impl.AreaOut{Disk: want, Text: text, Gen: int64(i) + 1}) {
				t.Fatalf("put %d, of %d bytes to %d sectors, is read as %d bytes, gen %d, code %d", i, len(text), sectors, len(read.Text), read.Gen, read.Code)
			}
			if g, s, n := headOf(t, out.Disk); g != gen+1 || s != 1-side || n != int64(len(text)) {
				t.Fatalf("the head behind put %d is %d %d %d", i, g, s, n)
			}
			d = out.Disk
		}
	}
}

// Promise 5, of what is pending: it is flushed with the text, and what is ahead is read from it.
func TestPutWithPending(t *testing.T) {
	d := areaOf(7, 4, 1, "ahead")
	d.Pending = []impl.Pending{{At: 6, Data: "other"}, {At: 4, Data: "later"}, {At: 1, Data: "stale"},
		{At: 0, Data: sealedNums("", 9, 1, 4)}}
	if got := impl.AreaRead(d); !sameAreaOut(got, impl.AreaOut{Disk: d, Text: "late", Gen: 9}) {
		t.Fatalf("what is pending is not read: %q, gen %d, code %d", got.Text, got.Gen, got.Code)
	}
	text := textOf(70)
	for i, want := range putByOther(d, 9, 1, text) {
		if got := impl.AreaPut(d, text, int64(i)); !sameAreaOut(got, impl.AreaOut{Disk: want}) {
			t.Errorf("%d steps: code %d, %q", i, got.Code, got.Disk.Sectors)
		}
	}
	if got := impl.AreaRead(impl.AreaPut(d, text, manySteps).Disk); got.Text != text || got.Gen != 10 {
		t.Errorf("read as %q, gen %d, code %d", got.Text, got.Gen, got.Code)
	}
}

// Each number of steps, up to far more than there are, leads to the disk that the document says.
func TestPutStepByStep(t *testing.T) {
	for _, sectors := range []int{3, 4, 5, 8, impl.MaxSectors} {
		for _, side := range []int64{0, 1} {
			for _, text := range edgeTexts(roomOf(sectors)) {
				d := areaOf(sectors, 7, side, textOf(roomOf(sectors)/2))
				want := putByOther(d, 7, side, text)
				last := len(want) - 1
				for i, w := range want {
					if got := impl.AreaPut(d, text, int64(i)); !sameAreaOut(got, impl.AreaOut{Disk: w}) {
						t.Fatalf("%d of %d steps of %d bytes: code %d, %q", i, last, len(text), got.Code, got.Disk.Sectors)
					}
				}
				for _, more := range []int64{int64(last) + 1, int64(last) + 2, 1 << 32, math.MaxInt64} {
					if got := impl.AreaPut(d, text, more); !sameAreaOut(got, impl.AreaOut{Disk: want[last]}) {
						t.Errorf("%d steps, where there are %d: code %d", more, last, got.Code)
					}
				}
				for _, below := range []int64{-1, -4, -1 << 32, math.MinInt64} {
					if got := impl.AreaPut(d, text, below); !sameAreaOut(got, impl.AreaOut{Disk: d}) {
						t.Errorf("%d steps: code %d, %q", below, got.Code, got.Disk.Sectors)
					}
				}
			}
		}
	}
}

// keepsOf are choices of what a crash keeps: all there are, if they are few, else each one alone, all but
// each one, the first ones, the last ones, and every other one.
func keepsOf(pending int) [][]int64 {
	var keeps [][]int64
	choose := func(kept func(int) bool) {
		keep := make([]int64, pending)
		for i := range keep {
			if kept(i) {
				keep[i] = int64(i) + 1
			}
		}
		keeps = append(keeps, keep)
	}
	if pending <= 6 {
		for set := range 1 << pending {
			choose(func(i int) bool { return set>>i&1 == 1 })
		}
		return append(keeps, nil)
	}
	for n := range pending + 1 {
		choose(func(i int) bool { return i == n })
		choose(func(i int) bool { return i != n })
		choose(func(i int) bool { return i < n })
		choose(func(i int) bool { return i >= n })
	}
	choose(func(i int) bool { return i%2 == 0 })
	choose(func(i int) bool { return i%2 == 1 })
	return append(keeps, nil)
}

// crashed is what is read behind a put of so many steps and a crash; it must be the one text or the other.
func crashed(t *testing.T, d impl.Disk, text string, steps int64) []impl.AreaOut {
	t.Helper()
	ahead := impl.AreaRead(d)
	out := impl.AreaPut(d, text, steps)
	if ahead.Code != impl.OK || out.Code != impl.OK {
		t.Fatalf("the text ahead has the code %d, %d steps of %d bytes the code %d", ahead.Code, steps, len(text), out.Code)
	}
	var told []impl.AreaOut
	for _, keep := range keepsOf(len(out.Disk.Pending)) {
		read := impl.AreaRead(impl.DiskCrash(out.Disk, keep))
		isAhead := read.Text == ahead.Text && read.Gen == ahead.Gen
		isNew := read.Text == text && read.Gen == ahead.Gen+1
		if read.Code != impl.OK || !isAhead && !isNew {
			t.Fatalf("%d steps of %d bytes, a crash that keeps %v: %d bytes, gen %d, code %d", steps, len(text), keep, len(read.Text), read.Gen, read.Code)
		}
		told = append(told, read)
	}
	return told
}

// Promise 6: for each number of steps, and each choice of what a crash keeps.
func TestPowerGoesWhilePutting(t *testing.T) {
	for _, sectors := range []int{3, 4, 5, 9, 13, impl.MaxSectors} {
		room := roomOf(sectors)
		for _, ahead := range []string{"", "ahead", strings.Repeat("a", room)} {
			for _, text := range append(edgeTexts(room), "new", strings.Repeat("n", room)) {
				for _, side := range []int64{0, 1} {
					d := areaOf(sectors, 5, side, ahead)
					all := int64(len(pieces(text)) + 3)
					for steps := int64(-1); steps <= all+1; steps++ {
						for _, read := range crashed(t, d, text, steps) {
							if steps >= all && (read.Text != text || read.Gen != 6) {
								t.Fatalf("all steps of %d bytes were done, and the crash left %q of gen %d", len(text), read.Text, read.Gen)
							}
							if steps < all-1 && (read.Text != ahead || read.Gen != 5) {
								t.Fatalf("%d steps of %d bytes, and the crash left %q of gen %d", steps, len(text), read.Text, read.Gen)
							}
						}
					}
				}
			}
		}
	}
}

// Promise 6, one power cut after the other: what a torn put has left on a side does not hurt the next one.
func TestPowerGoesAgainAndAgain(t *testing.T) {
	d := formatted(t, 8)
	text, gen := "", int64(0)
	for i := range 300 {
		next := strings.Repeat(string(rune('a'+i%26)), i*29%(roomOf(8)+1))
		steps := int64(i * 7 % 9)
		out := impl.AreaPut(d, next, steps)
		keep := []int64{int64(i % 2), int64(i % 3), int64(i % 5), int64(i % 7)}
		d = impl.DiskCrash(out.Disk, keep)
		read := impl.AreaRead(d)
		switch {
		case out.Code != impl.OK || read.Code != impl.OK:
			t.Fatalf("turn %d: code %d of the put, %d of the read", i, out.Code, read.Code)
		case read.Text == next && read.Gen == gen+1:
			text, gen = next, gen+1
		case read.Text != text || read.Gen != gen || steps >= int64(len(pieces(next))+3):
			t.Fatalf("turn %d: %q of gen %d is read", i, read.Text, read.Gen)
		}
	}
	if gen < 50 {
		t.Errorf("of 300 puts %d alone came through", gen)
	}
}

// The text of a side is read alone: neither what stands behind it, nor the other side, nor the odd sector.
func TestAreaReadTakesItsSide(t *testing.T) {
	for _, sectors := range []int{3, 4, 5, 6, impl.MaxSectors} {
		for _, side := range []int64{0, 1} {
			for _, text := range edgeTexts(roomOf(sectors)) {
				for _, gen := range []int64{0, 1, impl.MaxTime - 1, impl.MaxTime, impl.MaxTime + 1, math.MaxInt64} {
					d := areaOf(sectors, gen, side, text)
					got := impl.AreaRead(d)
					if !sameAreaOut(got, impl.AreaOut{Disk: d, Text: text, Gen: gen}) {
						t.Fatalf("%d bytes on side %d of %d sectors: %d bytes, gen %d, code %d", len(text), side, sectors, len(got.Text), got.Gen, got.Code)
					}
				}
			}
			d := areaOf(sectors, 1, side, textOf(roomOf(sectors)))
			d.Sectors[0] = sealedNums("", 1, side, 3)
			if got := impl.AreaRead(d); got.Text != textOf(3) || got.Code != impl.OK {
				t.Errorf("the first 3 bytes of a side of %d sectors: %q, code %d", sectors, got.Text, got.Code)
			}
		}
	}
}

// A disk of 1 or 2 sectors is not formatted, yet a head of no bytes may stand there.
func TestAreaOfOneOrTwoSectors(t *testing.T) {
	for _, sectors := range []int{1, 2} {
		for _, side := range []int64{0, 1} {
			d := areaOf(sectors, 3, side, "")
			if got := impl.AreaRead(d); !sameAreaOut(got, impl.AreaOut{Disk: d, Gen: 3}) {
				t.Errorf("AreaRead of %d sectors: gen %d, code %d", sectors, got.Gen, got.Code)
			}
			for i, want := range putByOther(d, 3, side, "") {
				if got := impl.AreaPut(d, "", int64(i)); !sameAreaOut(got, impl.AreaOut{Disk: want}) {
					t.Errorf("%d steps of no bytes to %d sectors: code %d", i, sectors, got.Code)
				}
			}
			for _, steps := range []int64{-1, 0, 1, manySteps} {
				if got := impl.AreaPut(d, "x", steps); !sameAreaOut(got, impl.AreaOut{Code: impl.ErrFull}) {
					t.Errorf("a byte to %d sectors: code %d", sectors, got.Code)
				}
			}
			d.Sectors[0] = sealedNums("", 3, side, 1)
			if got := impl.AreaRead(d); !sameAreaOut(got, impl.AreaOut{Code: impl.ErrSyntax}) {
				t.Errorf("a head of a byte on %d sectors: code %d", sectors, got.Code)
			}
		}
	}
}

type headCase struct {
	what string
	head string
	code int64
}

// wrongHeads are what may stand in the sector 0 of a disk of 5 and is no head of it.
func wrongHeads() []headCase {
	whole := sealedNums("", 1, 0, 5)
	l := []headCase{
		{"nothing", "", impl.ErrShort},
		{"a byte", "x", impl.ErrShort},
		{"three bytes", "\x00\x00\x00", impl.ErrShort},
		{"a head without its seal", "\x02\x00\x0a", impl.ErrShort},
		{"four bytes, no seal", "\x00\x00\x00\x01", impl.ErrSum},
		{"a seal and a byte", whole + "\x00", impl.ErrSum},
		{"a seal without its first byte", whole[1:], impl.ErrSum},
		{"a seal without its last byte", whole[:len(whole)-1], impl.ErrSum},
		{"a full sector, no seal", textOf(impl.SectorSize), impl.ErrSum},
		{"an unsealed head that is none", strings.Repeat("\xff", 9), impl.ErrSum},
		{"a sealed nothing", sealedByOther(""), impl.ErrSyntax},
		{"a full sector, sealed", sealedByOther(textOf(impl.SectorSize - 4)), impl.ErrSyntax},
		{"one number", sealedNums("", 1), impl.ErrSyntax},
		{"two numbers", sealedNums("", 1, 0), impl.ErrSyntax},
		{"four numbers", sealedNums("", 1, 0, 5, 0), impl.ErrSyntax},
		{"a byte behind it", sealedNums("x", 1, 0, 5), impl.ErrSyntax},
		{"half a number behind it", sealedNums("\x80", 1, 0, 5), impl.ErrSyntax},
		{"half a third number", sealedNums("\x80", 1, 0), impl.ErrSyntax},
		{"a gen with a needless byte", sealedByOther("\x82\x00\x00\x0a"), impl.ErrSyntax},
		{"a side with a needless byte", sealedByOther("\x02\x80\x00\x0a"), impl.ErrSyntax},
		{"a size with a needless byte", sealedByOther("\x02\x00\x8a\x00"), impl.ErrSyntax},
		{"a side of -1", sealedNums("", 1, -1, 5), impl.ErrSyntax},
		{"a side of 2", sealedNums("", 1, 2, 5), impl.ErrSyntax},
		{"a side of 2 to the 32nd", sealedNums("", 1, 1<<32, 5), impl.ErrSyntax},
		{"the least side", sealedNums("", 1, math.MinInt64, 0), impl.ErrSyntax},
		{"the greatest side", sealedNums("", 1, math.MaxInt64, 0), impl.ErrSyntax},
		{"a gen of -1", sealedNums("", -1, 0, 5), impl.ErrSyntax},
		{"the least gen", sealedNums("", math.MinInt64, 1, 5), impl.ErrSyntax},
		{"a size of -1", sealedNums("", 1, 0, -1), impl.ErrSyntax},
		{"the least size", sealedNums("", 1, 0, math.MinInt64), impl.ErrSyntax},
		{"a byte more than there is room for", sealedNums("", 1, 0, 129), impl.ErrSyntax},
		{"the same on the other side", sealedNums("", 1, 1, 129), impl.ErrSyntax},
		{"more than a whole disk has", sealedNums("", 1, 0, 321), impl.ErrSyntax},
		{"the greatest size", sealedNums("", 1, 0, math.MaxInt64), impl.ErrSyntax},
		{"a size that has room by 32 bits", sealedNums("", 1, 0, 1<<32), impl.ErrSyntax},
	}
	for i := range len(whole) {
		l = append(l, headCase{"a head with a byte turned", turned(whole, i, 16), impl.ErrSum})
	}
	return l
}

func TestAreaReadWrongHeads(t *testing.T) {
	for _, c := range wrongHeads() {
		flushed := areaOf(5, 1, 0, textOf(128))
		flushed.Sectors[0] = c.head
		waits := areaOf(5, 1, 0, textOf(128))
		waits.Pending = []impl.Pending{{At: 0, Data: c.head}}
		for _, d := range []impl.Disk{flushed, waits} {
			if got := impl.AreaRead(d); !sameAreaOut(got, impl.AreaOut{Code: c.code}) {
				t.Errorf("AreaRead of %s: code %d, not %d", c.what, got.Code, c.code)
			}
			for _, steps := range []int64{-1, 0, 1, manySteps} {
				for _, text := range []string{"", "x", textOf(129), textOf(impl.MaxBytes)} {
					if got := impl.AreaPut(d, text, steps); !sameAreaOut(got, impl.AreaOut{Code: c.code}) {
						t.Errorf("AreaPut of %d bytes to %s: code %d, not %d", len(text), c.what, got.Code, c.code)
					}
				}
			}
		}
	}
}

// A side that has fewer bytes than its head says, in its sectors or in what is pending, is not read.
func TestAreaReadLacking(t *testing.T) {
	full := textOf(impl.SectorSize)
	for _, c := range []struct {
		what string
		side int64
		size int64
		l    [2]string
		code int64
	}{
		{"nothing, of a byte", 0, 1, [2]string{"", ""}, impl.ErrSum},
		{"nothing, of all", 1, 128, [2]string{"", ""}, impl.ErrSum},
		{"one too few, in one sector", 0, 6, [2]string{"hello", ""}, impl.ErrSum},
		{"one too few, in one sector of the second side", 1, 6, [2]string{"hello", ""}, impl.ErrSum},
		{"one too few of a full one", 1, 64, [2]string{full[1:], ""}, impl.ErrSum},
		{"one sector of two", 0, 65, [2]string{full, ""}, impl.ErrSum},
		{"one too few of all", 0, 128, [2]string{full, full[1:]}, impl.ErrSum},
		{"one too few of all, in the first sector", 1, 128, [2]string{full[1:], full}, impl.ErrSum},
		{"just enough in one sector", 0, 5, [2]string{"hello", ""}, impl.OK},
		{"just enough in two", 1, 69, [2]string{full, "hello"}, impl.OK},
		{"all there is room for", 1, 128, [2]string{full, full}, impl.OK},
		{"no bytes, where there are none", 0, 0, [2]string{"", ""}, impl.OK},
	} {
		flushed := diskOf(5, 0)
		for i := range 2 {
			flushed.Sectors[1+int(c.side)*2+i] = c.l[i]
			// The other side has enough of its own.
			flushed.Sectors[1+int(1-c.side)*2+i] = full
		}
		flushed.Sectors[0] = sealedNums("", 8, c.side, c.size)
		waits := areaOf(5, 2, 1, "ahead")
		for at, data := range flushed.Sectors {
			waits.Pending = append(waits.Pending, impl.Pending{At: int64(at), Data: data})
		}
		for _, d := range []impl.Disk{flushed, waits} {
			want := impl.AreaOut{Code: c.code}
			if c.code == impl.OK {
				want = impl.AreaOut{Disk: d, Text: (c.l[0] + c.l[1])[:c.size], Gen: 8}
			}
			if got := impl.AreaRead(d); !sameAreaOut(got, want) {
				t.Errorf("a side of %s: %d bytes, gen %d, code %d", c.what, len(got.Text), got.Gen, got.Code)
			}
			if got := impl.AreaPut(d, "x", manySteps); got.Code != c.code {
				t.Errorf("AreaPut where a side has %s: code %d", c.what, got.Code)
			}
		}
	}
}

// shortened is an area of 7 sectors whose side lacks bytes at the end of one of its sectors.
func shortened(side int64, text string, at int, lacks int) impl.Disk {
	d := areaOf(7, 6, side, text)
	sector := 1 + int(side)*3 + at
	d.Sectors[sector] = d.Sectors[sector][:len(d.Sectors[sector])-lacks]
	return d
}

// pendingAll is the same disk, but that each of its sectors is pending.
func pendingAll(d impl.Disk) impl.Disk {
	waits := impl.Disk{Sectors: make([]string, len(d.Sectors))}
	for at, data := range d.Sectors {
		waits.Pending = append(waits.Pending, impl.Pending{At: int64(at), Data: data})
	}
	return waits
}

// Each sector that a text needs is full but the last one: what one lacks is not made up for by those behind it.
func TestAreaReadNotFull(t *testing.T) {
	for size := 1; size <= roomOf(7); size++ {
		text := textOf(size)
		for at, piece := range pieces(text) {
			for _, lacks := range []int{1, len(piece)} {
				for _, side := range []int64{0, 1} {
					d := shortened(side, text, at, lacks)
					for behind := at + 1; behind < 3; behind++ {
						d.Sectors[1+int(side)*3+behind] = textOf(impl.SectorSize)
					}
					for _, c := range []impl.Disk{d, pendingAll(d)} {
						if got := impl.AreaRead(c); !sameAreaOut(got, impl.AreaOut{Code: impl.ErrSum}) {
							t.Fatalf("%d bytes on side %d, where sector %d lacks %d: %q, code %d", size, side, at, lacks, got.Text, got.Code)
						}
						for _, steps := range []int64{-1, 0, manySteps} {
							if got := impl.AreaPut(c, "new", steps); !sameAreaOut(got, impl.AreaOut{Code: impl.ErrSum}) {
								t.Fatalf("AreaPut where %d bytes are on side %d, and sector %d lacks %d: code %d", size, side, at, lacks, got.Code)
							}
						}
					}
				}
			}
		}
	}
}

// A sector that the text does not need may have what it likes, and so may the end of its last one.
func TestAreaReadBehindTheText(t *testing.T) {
	for size := 0; size <= roomOf(7); size++ {
		text := textOf(size)
		for _, side := range []int64{0, 1} {
			for _, older := range []string{"", "o", textOf(impl.SectorSize)} {
				d := areaOf(7, 6, side, text)
				l := d.Sectors[1+int(side)*3:][:3]
				needed := len(pieces(text))
				for i := needed; i < 3; i++ {
					l[i] = older
				}
				if needed > 0 {
					l[needed-1] += older[:min(len(older), impl.SectorSize-len(l[needed-1]))]
				}
				for _, c := range []impl.Disk{d, pendingAll(d)} {
					if got := impl.AreaRead(c); !sameAreaOut(got, impl.AreaOut{Disk: c, Text: text, Gen: 6}) {
						t.Fatalf("%d bytes on side %d, %q behind them: %q, code %d", size, side, older, got.Text, got.Code)
					}
				}
			}
		}
	}
}

// Sectors that have enough in all, but not each of them its own, are not put together.
func TestAreaReadDoesNotGather(t *testing.T) {
	for _, c := range []struct {
		what string
		size int64
		l    []string
		code int64
	}{
		{"the first sector empty, the second one with all", 2, []string{"", "ab", ""}, impl.ErrSum},
		{"the last sector with all", 2, []string{"", "", "ab"}, impl.ErrSum},
		{"one byte too few, more behind it", 7, []string{"abcdef", textOf(22), ""}, impl.ErrSum},
		{"three sectors with enough in all", 8, []string{"abc", "", "defgh"}, impl.ErrSum},
		{"three sectors that are not full, a text of the first one", 3, []string{"abc", "", "defgh"}, impl.OK},
		{"a text of two sectors, enough in all", 65, []string{textOf(63), textOf(2), ""}, impl.ErrSum},
		{"a text of all sectors, the second one a byte short", 192, []string{textOf(64), textOf(63), textOf(64)}, impl.ErrSum},
	} {
		for _, side := range []int{0, 1} {
			d := diskOf(7, 0)
			d.Sectors[0] = sealedNums("", 1, int64(side), c.size)
			copy(d.Sectors[1+side*3:], c.l)
			want := impl.AreaOut{Code: c.code}
			if c.code == impl.OK {
				want = impl.AreaOut{Disk: d, Text: strings.Join(c.l, "")[:c.size], Gen: 1}
			}
			if got := impl.AreaRead(d); !sameAreaOut(got, want) {
				t.Errorf("%s, on side %d: %q, code %d", c.what, side, got.Text, got.Code)
			}
		}
	}
}

func TestPutGens(t *testing.T) {
	for _, c := range []struct {
		gen  int64
		code int64
	}{
		{0, impl.OK},
		{impl.MaxTime - 2, impl.OK},
		{impl.MaxTime - 1, impl.OK},
		{impl.MaxTime, impl.ErrFull},
		{impl.MaxTime + 1, impl.ErrFull},
		{math.MaxInt64, impl.ErrFull},
	} {
		for _, steps := range []int64{-1, 0, 3, manySteps} {
			for _, text := range []string{"", "new"} {
				got := impl.AreaPut(areaOf(5, c.gen, 0, "ahead"), text, steps)
				if got.Code != c.code || c.code != impl.OK && !sameAreaOut(got, impl.AreaOut{Code: c.code}) {
					t.Errorf("AreaPut behind gen %d, %d steps: code %d", c.gen, steps, got.Code)
				}
			}
		}
		if c.code == impl.OK {
			got := impl.AreaRead(impl.AreaPut(areaOf(5, c.gen, 0, "ahead"), "new", manySteps).Disk)
			if got.Text != "new" || got.Gen != c.gen+1 || got.Code != impl.OK {
				t.Errorf("behind gen %d is read %q of gen %d, code %d", c.gen, got.Text, got.Gen, got.Code)
			}
		}
	}
}

// pendingArea is a disk with "ahead" on its side 0, and so many writes pending, to the last sector, which is of no side.
func pendingArea(pending int) impl.Disk {
	d := areaOf(8, 1, 0, "ahead")
	for i := range pending {
		d.Pending = append(d.Pending, impl.Pending{At: 7, Data: textOf(i % 5)})
	}
	return d
}

// Where a write finds 200 pending the put ends with its code; a flush ahead of it makes room.
func TestPutWhenFull(t *testing.T) {
	for _, c := range []struct {
		pending int
		bytes   int
		fails   int64
	}{
		{197, 129, 0},
		{198, 129, 3},
		{198, 128, 0},
		{199, 0, 0},
		{199, 1, 0},
		{199, 64, 0},
		{199, 65, 2},
		{200, 0, 0},
		{200, 1, 1},
		{200, 65, 1},
	} {
		d, text := pendingArea(c.pending), textOf(c.bytes)
		all := putByOther(d, 1, 0, text)
		for _, steps := range []int64{-1, 0, 1, 2, 3, 4, 5, 6, manySteps} {
			want := impl.AreaOut{Disk: all[max(0, min(steps, int64(len(all)-1)))]}
			if c.fails > 0 && steps >= c.fails {
				want = impl.AreaOut{Code: impl.ErrFull}
			}
			if got := impl.AreaPut(d, text, steps); !sameAreaOut(got, want) {
				t.Errorf("%d steps of %d bytes, %d pending: code %d, not %d", steps, c.bytes, c.pending, got.Code, want.Code)
			}
		}
	}
}

// The faults of a put in their order: each case has those behind its own too, as far as these can come with it.
func TestAreaPutFaults(t *testing.T) {
	wrong := areaOf(5, impl.MaxTime, 0, "ahead")
	wrong.Sectors[4] = textOf(impl.SectorSize + 1)
	noSeal := areaOf(5, 1, 0, "ahead")
	noSeal.Sectors[0] = textOf(9)
	noHead := areaOf(5, 1, 0, "ahead")
	noHead.Sectors[0] = sealedNums("", impl.MaxTime, 2, 0)
	lacks := areaOf(5, 1, 0, "")
	lacks.Sectors[0] = sealedNums("", impl.MaxTime, 1, 128)
	last := areaOf(5, impl.MaxTime, 0, "ahead")
	full := pendingArea(200)
	for _, c := range []struct {
		what string
		d    impl.Disk
		text string
		code int64
	}{
		{"MaxBytes and one, a wrong disk", wrong, textOf(impl.MaxBytes + 1), impl.ErrSize},
		{"MaxBytes and one, no seal", noSeal, textOf(impl.MaxBytes + 1), impl.ErrSize},
		{"MaxBytes and one, the last gen", last, textOf(impl.MaxBytes + 1), impl.ErrSize},
		{"MaxBytes and one", areaOf(5, 1, 0, ""), textOf(impl.MaxBytes + 1), impl.ErrSize},
		{"MaxBytes, a wrong disk", wrong, textOf(impl.MaxBytes), impl.ErrForm},
		{"a wrong disk", wrong, "x", impl.ErrForm},
		{"no seal, no room", noSeal, textOf(129), impl.ErrSum},
		{"no head, no room", noHead, textOf(129), impl.ErrSyntax},
		{"a side that lacks bytes, no room, the last gen", lacks, textOf(129), impl.ErrSum},
		{"a side that lacks bytes, the last gen", lacks, "x", impl.ErrSum},
		{"MaxBytes", areaOf(5, 1, 0, ""), textOf(impl.MaxBytes), impl.ErrFull},
		{"no room, the last gen", last, textOf(129), impl.ErrFull},
		{"the last gen", last, "", impl.ErrFull},
		{"a byte more than there is room for", areaOf(5, 1, 0, ""), textOf(129), impl.ErrFull},
		{"a byte more than there is room for, on 3 sectors", areaOf(3, 1, 1, ""), textOf(65), impl.ErrFull},
		{"a byte more than there is room for, on 4 sectors", areaOf(4, 1, 0, ""), textOf(65), impl.ErrFull},
		{"a byte more than there is room for, on all", areaOf(impl.MaxSectors, 1, 0, ""), textOf(1985), impl.ErrFull},
		{"no room, and full", full, textOf(193), impl.ErrFull},
	} {
		for _, steps := range []int64{math.MinInt64, -1, 0, 1, manySteps} {
			if got := impl.AreaPut(c.d, c.text, steps); !sameAreaOut(got, impl.AreaOut{Code: c.code}) {
				t.Errorf("AreaPut of %s, %d steps: code %d, not %d", c.what, steps, got.Code, c.code)
			}
		}
	}
}

func TestAreaWrongDisks(t *testing.T) {
	for _, c := range wrongDisks() {
		d := diskCopy(c.d)
		if len(d.Sectors) > 0 && len(d.Sectors[0]) <= impl.SectorSize {
			// But for the fault, it is a disk from which a text could be read.
			d.Sectors[0] = sealedNums("", 1, 0, 0)
		}
		if got := impl.AreaRead(d); !sameAreaOut(got, impl.AreaOut{Code: impl.ErrForm}) {
			t.Errorf("AreaRead of a disk of %s: code %d", c.what, got.Code)
		}
		for _, steps := range []int64{-1, 0, manySteps} {
			if got := impl.AreaPut(d, "", steps); !sameAreaOut(got, impl.AreaOut{Code: impl.ErrForm}) {
				t.Errorf("AreaPut to a disk of %s: code %d", c.what, got.Code)
			}
			if got := impl.AreaPut(d, textOf(impl.MaxBytes+1), steps); !sameAreaOut(got, impl.AreaOut{Code: impl.ErrSize}) {
				t.Errorf("AreaPut of too long a text to a disk of %s: code %d", c.what, got.Code)
			}
		}
	}
}

// What is handed in is not changed, not even behind the ends of its lists, and nothing handed back lies there.
func TestAreaHandedInIsNotChanged(t *testing.T) {
	cases := append(rightDisks(), wrongDisks()...)
	cases = append(cases, diskCase{"an area", areaOf(7, 1, 0, textOf(150))}, diskCase{"an area, 5 pending", pendingArea(5)},
		diskCase{"an area, 199 pending", pendingArea(199)}, diskCase{"an area, 200 pending", pendingArea(200)})
	for _, c := range cases {
		sectors := append(slices.Clone(c.d.Sectors), "spare", "spare")
		pending := append(slices.Clone(c.d.Pending), impl.Pending{Data: "spare"}, impl.Pending{Data: "spare"})
		d := impl.Disk{Sectors: sectors[:len(c.d.Sectors)], Pending: pending[:len(c.d.Pending)]}
		all := impl.Disk{Sectors: slices.Clone(sectors), Pending: slices.Clone(pending)}
		text := textOf(70)
		answers := []impl.AreaOut{impl.AreaFormat(d), impl.AreaRead(d)}
		for steps := range int64(7) {
			answers = append(answers, impl.AreaPut(d, text, steps-1), impl.AreaPut(d, "", steps))
		}
		impl.AreaRoom(d)
		for i, a := range answers {
			if sharesDisk(d, append(textsOf(a.Disk), a.Text)...) || sharesDisk(a.Disk, text, a.Text) {
				t.Errorf("answer %d of a disk of %s shares memory", i, c.what)
			}
			scribble(a.Disk)
		}
		if !sameDisk(impl.Disk{Sectors: sectors, Pending: pending}, all) || text != textOf(70) {
			t.Errorf("a disk of %s has changed", c.what)
		}
	}
}
