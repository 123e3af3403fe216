package tests

import (
	"math"
	"slices"
	"strconv"
	"testing"

	"loop.example/g00626/impl"
)

// sameDisk compares what is in two disks; an empty list and none are the same.
func sameDisk(a impl.Disk, b impl.Disk) bool {
	return slices.Equal(a.Sectors, b.Sectors) && slices.Equal(a.Pending, b.Pending)
}

func sameDiskOut(a impl.DiskOut, b impl.DiskOut) bool {
	return sameDisk(a.Disk, b.Disk) && a.Data == b.Data && a.Code == b.Code
}

// diskCopy is a disk as it is, in other memory, to see afterwards that nothing has changed.
func diskCopy(d impl.Disk) impl.Disk {
	return impl.Disk{Sectors: slices.Clone(d.Sectors), Pending: slices.Clone(d.Pending)}
}

// textsOf are all the texts of a disk.
func textsOf(d impl.Disk) []string {
	l := slices.Clone(d.Sectors)
	for _, p := range d.Pending {
		l = append(l, p.Data)
	}
	return l
}

// sharesDisk tells whether one of the texts lies in the memory of a text of the disk.
func sharesDisk(d impl.Disk, texts ...string) bool {
	for _, a := range textsOf(d) {
		for _, b := range texts {
			if shares(a, b) {
				return true
			}
		}
	}
	return false
}

// flushedByOther puts those Pending into the sectors, one by one, that are to be kept.
func flushedByOther(d impl.Disk, keeps func(int) bool) impl.Disk {
	sectors := slices.Clone(d.Sectors)
	for i, p := range d.Pending {
		if keeps(i) {
			sectors[p.At] = p.Data
		}
	}
	return impl.Disk{Sectors: sectors}
}

func allKept(int) bool {
	return true
}

// diskOf has so many sectors and pending writes, no two texts of it alike; several writes are at one place.
func diskOf(sectors int, pending int) impl.Disk {
	var d impl.Disk
	for i := range sectors {
		d.Sectors = append(d.Sectors, "sector "+strconv.Itoa(i))
	}
	for i := range pending {
		at := int64(i * 5 % 7 % sectors)
		d.Pending = append(d.Pending, impl.Pending{At: at, Data: "written " + strconv.Itoa(i)})
	}
	return d
}

// withSector and withPending are a disk of three sectors with two Pending, of which one thing is another one.
func withSector(i int, text string) impl.Disk {
	d := diskOf(3, 2)
	d.Sectors[i] = text
	return d
}

func withPending(i int, at int64, data string) impl.Disk {
	d := diskOf(3, 2)
	d.Pending[i] = impl.Pending{At: at, Data: data}
	return d
}

type diskCase struct {
	what string
	d    impl.Disk
}

func rightDisks() []diskCase {
	return []diskCase{
		{"one empty sector", impl.Disk{Sectors: []string{""}}},
		{"one full sector", impl.Disk{Sectors: []string{textOf(impl.SectorSize)}}},
		{"one sector, one pending", diskOf(1, 1)},
		{"three sectors, two pending", diskOf(3, 2)},
		{"MaxSectors sectors", diskOf(impl.MaxSectors, 0)},
		{"the last sector full", withSector(2, textOf(impl.SectorSize))},
		{"a full pending", withPending(1, 0, textOf(impl.SectorSize))},
		{"an empty pending", withPending(0, 0, "")},
		{"a pending of the last sector", withPending(1, 2, "x")},
		{"199 pending", diskOf(5, 199)},
		{"200 pending", diskOf(impl.MaxSectors, 200)},
	}
}

func wrongDisks() []diskCase {
	return []diskCase{
		{"none", impl.Disk{}},
		{"no sectors", impl.Disk{Sectors: []string{}}},
		{"no sectors, one pending", impl.Disk{Pending: []impl.Pending{{At: 0, Data: "x"}}}},
		{"more than MaxSectors sectors", diskOf(impl.MaxSectors+1, 3)},
		{"more than MaxList sectors", diskOf(impl.MaxList+1, 3)},
		{"a first sector too long", withSector(0, textOf(impl.SectorSize+1))},
		{"a last sector too long", withSector(2, textOf(impl.SectorSize+1))},
		{"a sector of more than MaxBytes", withSector(1, textOf(impl.MaxBytes+1))},
		{"a first pending too long", withPending(0, 0, textOf(impl.SectorSize+1))},
		{"a last pending too long", withPending(1, 0, textOf(impl.SectorSize+1))},
		{"a pending ahead of the first sector", withPending(0, -1, "x")},
		{"a pending at the least place", withPending(1, math.MinInt64, "x")},
		{"a pending behind the last sector", withPending(1, 3, "x")},
		{"a pending at the greatest place", withPending(0, math.MaxInt64, "x")},
		{"a pending at a place that is right by 32 bits", withPending(0, 1<<32, "x")},
		{"201 pending", diskOf(3, 201)},
		{"more than MaxList pending", diskOf(3, impl.MaxList+1)},
	}
}

func TestDiskConstants(t *testing.T) {
	if impl.MaxSectors != 64 || impl.SectorSize != 64 {
		t.Error("a limit is another one")
	}
}

func TestDiskRight(t *testing.T) {
	for _, c := range rightDisks() {
		if !impl.DiskRight(c.d) {
			t.Errorf("a disk of %s is not right", c.what)
		}
	}
	for _, c := range wrongDisks() {
		if impl.DiskRight(c.d) {
			t.Errorf("a disk of %s is right", c.what)
		}
	}
}

func TestDiskNew(t *testing.T) {
	for _, n := range []int64{1, 2, 3, 63, impl.MaxSectors} {
		d := impl.DiskNew(n)
		if !sameDisk(d, impl.Disk{Sectors: make([]string, n)}) || !impl.DiskRight(d) {
			t.Errorf("DiskNew(%d) is %+v", n, d)
		}
	}
	for _, n := range []int64{0, -1, impl.MaxSectors + 1, 1<<32 + 1, math.MinInt64, math.MaxInt64} {
		if d := impl.DiskNew(n); !sameDisk(d, impl.Disk{}) {
			t.Errorf("DiskNew(%d) has %d sectors", n, len(d.Sectors))
		}
	}
}

func TestDiskRead(t *testing.T) {
	for _, c := range rightDisks() {
		want := flushedByOther(c.d, allKept).Sectors
		for at := range want {
			got := impl.DiskRead(c.d, int64(at))
			if !sameDiskOut(got, impl.DiskOut{Disk: c.d, Data: want[at]}) {
				t.Errorf("DiskRead(%d) of a disk of %s: %+v", at, c.what, got)
			}
			if sharesDisk(c.d, append(textsOf(got.Disk), got.Data)...) {
				t.Errorf("DiskRead(%d) of a disk of %s shares memory with it", at, c.what)
			}
		}
		for _, at := range []int64{-1, int64(len(want)), int64(len(want)) + 1, 1 << 32, math.MinInt64, math.MaxInt64} {
			if got := impl.DiskRead(c.d, at); !sameDiskOut(got, impl.DiskOut{Code: impl.ErrRange}) {
				t.Errorf("DiskRead(%d) of a disk of %s: %+v", at, c.what, got)
			}
		}
	}
	for _, c := range wrongDisks() {
		for _, at := range []int64{-1, 0, 1, 500} {
			if got := impl.DiskRead(c.d, at); !sameDiskOut(got, impl.DiskOut{Code: impl.ErrForm}) {
				t.Errorf("DiskRead(%d) of a disk of %s: code %d", at, c.what, got.Code)
			}
		}
	}
}

// Promise 4, of writing: it is read, the last one of a sector, and other sectors read as they did.
func TestWrittenIsRead(t *testing.T) {
	d := impl.DiskNew(7)
	shown := make([]string, 7)
	for i := range 200 {
		at := i * i % 7
		data := textOf(i % (impl.SectorSize + 1))
		out := impl.DiskWrite(d, int64(at), data)
		want := diskCopy(d)
		want.Pending = append(want.Pending, impl.Pending{At: int64(at), Data: data})
		if !sameDiskOut(out, impl.DiskOut{Disk: want}) || !impl.DiskRight(out.Disk) {
			t.Fatalf("write %d: %+v", i, out)
		}
		d = out.Disk
		shown[at] = data
		for j := range shown {
			if got := impl.DiskRead(d, int64(j)); got.Data != shown[j] || got.Code != impl.OK {
				t.Fatalf("sector %d behind write %d reads %q, code %d", j, i, got.Data, got.Code)
			}
		}
	}
	if got := impl.DiskWrite(d, 0, "x"); !sameDiskOut(got, impl.DiskOut{Code: impl.ErrFull}) {
		t.Errorf("one write more than 200: code %d", got.Code)
	}
	if got := impl.DiskWrite(impl.DiskFlush(d).Disk, 0, "x"); got.Code != impl.OK || got.Disk.Pending[0].Data != "x" {
		t.Errorf("a write behind the flush of 200: %+v", got)
	}
}

// Promise 4, of flushing: all reads as it did, and is there behind any crash.
func TestFlushedIsThere(t *testing.T) {
	for _, c := range rightDisks() {
		out := impl.DiskFlush(c.d)
		if !sameDiskOut(out, impl.DiskOut{Disk: flushedByOther(c.d, allKept)}) || !impl.DiskRight(out.Disk) {
			t.Errorf("DiskFlush of a disk of %s: %+v", c.what, out)
		}
		for at := range c.d.Sectors {
			if got, want := impl.DiskRead(out.Disk, int64(at)).Data, impl.DiskRead(c.d, int64(at)).Data; got != want {
				t.Errorf("sector %d of %s reads %q behind a flush, not %q", at, c.what, got, want)
			}
		}
		if sharesDisk(c.d, textsOf(out.Disk)...) {
			t.Errorf("DiskFlush of a disk of %s shares memory with it", c.what)
		}
		for _, keep := range [][]int64{nil, {0}, {1}, {-1, 1, 1}, slices.Repeat([]int64{1}, 200), slices.Repeat([]int64{1}, 400)} {
			if got := impl.DiskCrash(out.Disk, keep); !sameDisk(got, out.Disk) {
				t.Errorf("a flushed disk of %s is %+v behind a crash", c.what, got)
			}
			later := impl.DiskWrite(out.Disk, 0, "later").Disk
			got := impl.DiskCrash(later, keep)
			if !slices.Equal(got.Sectors[1:], out.Disk.Sectors[1:]) {
				t.Errorf("of a flushed disk of %s, written to at 0, another sector is gone", c.what)
			}
			if got.Sectors[0] != "later" && got.Sectors[0] != out.Disk.Sectors[0] {
				t.Errorf("of a flushed disk of %s the sector 0 is %q", c.what, got.Sectors[0])
			}
		}
	}
	for _, c := range wrongDisks() {
		if got := impl.DiskFlush(c.d); !sameDiskOut(got, impl.DiskOut{Code: impl.ErrForm}) {
			t.Errorf("DiskFlush of a disk of %s: code %d", c.what, got.Code)
		}
	}
}

// A crash keeps what it is told to keep, in order: every choice among some writes, by every kind of number.
func TestCrashKeepsWhatItIsTold(t *testing.T) {
	d := impl.Disk{Sectors: []string{"a", "b", "c"}, Pending: []impl.Pending{
		{At: 1, Data: "first"}, {At: 0, Data: ""}, {At: 1, Data: "second"}, {At: 1, Data: "third"}, {At: 0, Data: "fourth"},
	}}
	some := []int64{0, 1, -1, 2, math.MinInt64, math.MaxInt64}
	keeps := [][]int64{nil}
	for range 6 {
		var longer [][]int64
		for _, k := range keeps {
			for _, n := range some[:3] {
				longer = append(longer, append(slices.Clone(k), n))
			}
		}
		keeps = append(keeps, longer...)
	}
	for _, n := range some {
		for many := range 6 {
			keeps = append(keeps, slices.Repeat([]int64{n}, many))
		}
		keeps = append(keeps, slices.Repeat([]int64{n}, 399), slices.Repeat([]int64{n}, impl.MaxList))
	}
	for _, keep := range keeps {
		want := flushedByOther(d, func(i int) bool { return i < len(keep) && keep[i] > 0 })
		got := impl.DiskCrash(d, keep)
		if !sameDisk(got, want) || !impl.DiskRight(got) {
			t.Fatalf("DiskCrash with %v: %+v, not %+v", keep, got, want)
		}
		if sharesDisk(d, textsOf(got)...) {
			t.Fatalf("DiskCrash with %v shares memory", keep)
		}
	}
}

func TestCrashOfManyPending(t *testing.T) {
	for _, many := range []int{199, 200} {
		d := diskOf(impl.MaxSectors, many)
		for i := range many {
			keep := make([]int64, i+1)
			keep[i] = 1
			want := flushedByOther(d, func(j int) bool { return j == i })
			if got := impl.DiskCrash(d, keep); !sameDisk(got, want) {
				t.Errorf("a crash that keeps %d of %d alone: %+v", i, many, got)
			}
		}
	}
}

func TestCrashRefuses(t *testing.T) {
	for _, c := range wrongDisks() {
		for _, keep := range [][]int64{nil, {1}, slices.Repeat([]int64{1}, impl.MaxList)} {
			got := impl.DiskCrash(c.d, keep)
			if !sameDisk(got, c.d) {
				t.Errorf("DiskCrash of a disk of %s is another one", c.what)
			}
			if sharesDisk(c.d, textsOf(got)...) {
				t.Errorf("DiskCrash of a disk of %s shares memory with it", c.what)
			}
		}
	}
	tooLong := slices.Repeat([]int64{1}, impl.MaxList+1)
	for _, c := range append(rightDisks(), wrongDisks()...) {
		if got := impl.DiskCrash(c.d, tooLong); !sameDisk(got, impl.Disk{}) {
			t.Errorf("DiskCrash of a disk of %s with more than MaxList: %d sectors", c.what, len(got.Sectors))
		}
	}
}

// The faults of a write in their order: each case has all those behind its own too.
func TestDiskWriteFaults(t *testing.T) {
	wrong, full := diskOf(impl.MaxSectors+1, 3), diskOf(3, 200)
	long, tooLong := textOf(impl.SectorSize+1), textOf(impl.MaxBytes+1)
	for _, c := range []struct {
		what string
		d    impl.Disk
		at   int64
		data string
		code int64
	}{
		{"a text too long, a wrong disk, no sector", wrong, -1, tooLong, impl.ErrSize},
		{"a text too long, no sector, full", full, 3, tooLong, impl.ErrSize},
		{"a text too long", diskOf(3, 0), 0, tooLong, impl.ErrSize},
		{"a wrong disk, MaxBytes, no sector", wrong, -1, textOf(impl.MaxBytes), impl.ErrForm},
		{"a wrong disk, no sector", wrong, -1, "x", impl.ErrForm},
		{"a wrong disk", wrong, 0, "x", impl.ErrForm},
		{"MaxBytes, no sector, full", full, 3, textOf(impl.MaxBytes), impl.ErrForm},
		{"a byte more than SectorSize, no sector, full", full, -1, long, impl.ErrForm},
		{"a byte more than SectorSize, full", full, 0, long, impl.ErrForm},
		{"a byte more than SectorSize", diskOf(3, 199), 0, long, impl.ErrForm},
		{"the sector ahead of the first one, full", full, -1, "x", impl.ErrRange},
		{"the sector behind the last one, full", full, 3, "x", impl.ErrRange},
		{"the sector ahead of the first one", diskOf(3, 0), -1, "x", impl.ErrRange},
		{"the sector behind the last one", diskOf(3, 0), 3, "x", impl.ErrRange},
		{"the sector behind MaxSectors", diskOf(impl.MaxSectors, 0), impl.MaxSectors, "x", impl.ErrRange},
		{"the least place", diskOf(3, 0), math.MinInt64, "", impl.ErrRange},
		{"the greatest place", diskOf(3, 0), math.MaxInt64, "", impl.ErrRange},
		{"a place that is right by 32 bits", diskOf(3, 0), 1 << 32, "", impl.ErrRange},
		{"200 pending", full, 0, "x", impl.ErrFull},
		{"200 pending, nothing to write", full, 2, "", impl.ErrFull},
		{"200 pending, a full sector", full, 2, textOf(impl.SectorSize), impl.ErrFull},
	} {
		if got := impl.DiskWrite(c.d, c.at, c.data); !sameDiskOut(got, impl.DiskOut{Code: c.code}) {
			t.Errorf("DiskWrite of %s: code %d, not %d", c.what, got.Code, c.code)
		}
	}
	for _, c := range wrongDisks() {
		if got := impl.DiskWrite(c.d, 0, "x"); !sameDiskOut(got, impl.DiskOut{Code: impl.ErrForm}) {
			t.Errorf("DiskWrite to a disk of %s: code %d", c.what, got.Code)
		}
	}
}

func TestDiskWriteEdges(t *testing.T) {
	for _, d := range []impl.Disk{diskOf(1, 0), diskOf(3, 199), diskOf(impl.MaxSectors, 5)} {
		last := int64(len(d.Sectors) - 1)
		for _, at := range []int64{0, last} {
			for _, n := range []int{0, 1, impl.SectorSize - 1, impl.SectorSize} {
				data := textOf(n)
				got := impl.DiskWrite(d, at, data)
				want := diskCopy(d)
				want.Pending = append(want.Pending, impl.Pending{At: at, Data: data})
				if !sameDiskOut(got, impl.DiskOut{Disk: want}) {
					t.Errorf("DiskWrite of %d bytes at %d: %+v", n, at, got)
				}
				if read := impl.DiskRead(got.Disk, at); read.Data != data {
					t.Errorf("%d bytes at %d are read as %d", n, at, len(read.Data))
				}
				if sharesDisk(got.Disk, append(textsOf(d), data)...) {
					t.Errorf("DiskWrite of %d bytes at %d shares memory", n, at)
				}
			}
		}
	}
}

// scribble writes over all that can be reached of a disk, even behind the ends of its lists.
func scribble(d impl.Disk) {
	sectors, pending := d.Sectors[:cap(d.Sectors)], d.Pending[:cap(d.Pending)]
	for i := range sectors {
		sectors[i] = "scribbled"
	}
	for i := range pending {
		pending[i] = impl.Pending{At: 1, Data: "scribbled"}
	}
}

// What is handed in is not changed, not even behind the ends of its lists, and nothing handed back lies there.
func TestDiskHandedInIsNotChanged(t *testing.T) {
	for _, c := range append(rightDisks(), wrongDisks()...) {
		sectors := append(slices.Clone(c.d.Sectors), "spare", "spare")
		pending := append(slices.Clone(c.d.Pending), impl.Pending{Data: "spare"}, impl.Pending{Data: "spare"})
		d := impl.Disk{Sectors: sectors[:len(c.d.Sectors)], Pending: pending[:len(c.d.Pending)]}
		keep := []int64{1, 0, 1}
		all := impl.Disk{Sectors: slices.Clone(sectors), Pending: slices.Clone(pending)}
		answers := []impl.Disk{impl.DiskRead(d, 0).Disk, impl.DiskWrite(d, 0, "x").Disk, impl.DiskFlush(d).Disk,
			impl.DiskCrash(d, nil), impl.DiskCrash(d, keep)}
		for _, a := range answers {
			scribble(a)
		}
		if !sameDisk(impl.Disk{Sectors: sectors, Pending: pending}, all) {
			t.Errorf("a disk of %s has changed", c.what)
		}
		if !slices.Equal(keep, []int64{1, 0, 1}) {
			t.Errorf("the keep of a disk of %s has changed", c.what)
		}
	}
}
