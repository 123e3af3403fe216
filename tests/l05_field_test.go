package tests

import (
	"fmt"
	"math"
	"slices"
	"testing"

	"loop.example/g00626/impl"
)

// field has the elements by other means: as powers of 2.
type field struct {
	powers  [2 * 255]int64
	powerOf [256]int
}

func fieldByOther() field {
	var f field
	element := int64(1)
	for i := range f.powers {
		f.powers[i] = element
		if i < 255 {
			f.powerOf[element] = i
		}
		element *= 2
		if element > 255 {
			element -= 256
			element ^= 29
		}
	}
	return f
}

func (f field) times(a int64, b int64) int64 {
	if a == 0 || b == 0 {
		return 0
	}
	return f.powers[f.powerOf[a]+f.powerOf[b]]
}

func (f field) by(a int64, b int64) int64 {
	if a == 0 || b == 0 {
		return 0
	}
	return f.powers[f.powerOf[a]+255-f.powerOf[b]]
}

// valueOf is what a sum of powers is at a place; the first factor is that of the highest power.
func (f field) valueOf(factors []int64, at int64) int64 {
	value := int64(0)
	for _, factor := range factors {
		value = f.times(value, at) ^ factor
	}
	return value
}

// lineAt is where the line through these is at a place, by Newton's differences.
func (f field) lineAt(xs []int64, ys []int64, at int64) int64 {
	differences := slices.Clone(ys)
	for round := 1; round < len(xs); round++ {
		for i := len(xs) - 1; i >= round; i-- {
			differences[i] = f.by(differences[i]^differences[i-1], xs[i]^xs[i-round])
		}
	}
	value := int64(0)
	for i := len(xs) - 1; i >= 0; i-- {
		value = f.times(value, at^xs[i]) ^ differences[i]
	}
	return value
}

// spreadByOther are the pieces of a text, byte by byte.
func spreadByOther(f field, text string, need int, more int) []string {
	length := (len(text) + need - 1) / need
	l := make([][]byte, need+more)
	for at := range length {
		xs, ys := make([]int64, need), make([]int64, need)
		for i := range need {
			xs[i] = int64(i)
			if i*length+at < len(text) {
				ys[i] = int64(text[i*length+at])
			}
		}
		for i := range l {
			l[i] = append(l[i], byte(f.lineAt(xs, ys, int64(i))))
		}
	}
	told := make([]string, len(l))
	for i, piece := range l {
		told[i] = string(piece)
	}
	return told
}

// wrongElements are numbers that are no elements, some of which are by fewer bits.
func wrongElements() []int64 {
	return []int64{math.MinInt64, math.MinInt64 + 1, -1 << 32, -257, -256, -255, -2, -1, 256, 257, 285, 511, 512,
		1 << 16, 1 << 32, 1<<32 + 1, math.MaxInt64 - 1, math.MaxInt64}
}

// someElements are the least and the greatest ones, and some between.
func someElements() []int64 {
	return []int64{0, 1, 2, 3, 29, 127, 128, 142, 254, 255}
}

// allShards are all pieces of a text, rising.
func allShards(text string, need int64, more int64) []impl.Shard {
	var l []impl.Shard
	for i, data := range impl.Spread(text, need, more) {
		l = append(l, impl.Shard{Index: int64(i), Data: data})
	}
	return l
}

// chosen are those of a list whose bits are set.
func chosen(l []impl.Shard, bits int) []impl.Shard {
	var some []impl.Shard
	for i, s := range l {
		if bits>>i&1 == 1 {
			some = append(some, s)
		}
	}
	return some
}

// ordersOf are all orders of a list of at most 4, some of a longer one.
func ordersOf(l []impl.Shard) [][]impl.Shard {
	if len(l) < 2 {
		return [][]impl.Shard{slices.Clone(l)}
	}
	if len(l) > 4 {
		falling := slices.Clone(l)
		slices.Reverse(falling)
		return [][]impl.Shard{slices.Clone(l), falling, append(slices.Clone(l[2:]), l[:2]...), append(slices.Clone(falling[3:]), falling[:3]...)}
	}
	var orders [][]impl.Shard
	for i, first := range l {
		rest := append(slices.Clone(l[:i]), l[i+1:]...)
		for _, order := range ordersOf(rest) {
			orders = append(orders, append([]impl.Shard{first}, order...))
		}
	}
	return orders
}

// turnedShards are the same, but for one byte of one of them.
func turnedShards(l []impl.Shard, which int, at int, by byte) []impl.Shard {
	other := slices.Clone(l)
	other[which].Data = turned(other[which].Data, at, by)
	return other
}

// groupSizes are sizes of texts: the least and the greatest ones, and those around a whole number of pieces.
func groupSizes(need int) []int {
	l := []int{1, need - 1, need, need + 1, 3*need - 1, 3 * need, 3*need + 1, impl.MaxGroup - 1, impl.MaxGroup}
	slices.Sort(l)
	return slices.DeleteFunc(slices.Compact(l), func(n int) bool { return n < 1 })
}

func TestFieldConstants(t *testing.T) {
	if impl.MaxNeed != 6 || impl.MaxMore != 4 || impl.MaxGroup != 100 {
		t.Error("a limit is another one")
	}
}

func TestKnownProducts(t *testing.T) {
	for _, c := range []struct{ a, b, want int64 }{
		{0, 0, 0}, {0, 255, 0}, {1, 1, 1}, {1, 255, 255}, {2, 127, 254}, {2, 128, 29}, {3, 7, 9}, {16, 16, 29},
		{2, 142, 1}, {128, 128, 19}, {255, 255, 226},
	} {
		if got := impl.GfMul(c.a, c.b); got != c.want {
			t.Errorf("%d times %d is %d, not %d", c.a, c.b, got, c.want)
		}
	}
	for _, c := range []struct{ a, want int64 }{{0, 0}, {1, 1}, {2, 142}, {142, 2}, {29, 131}, {255, 253}} {
		if got := impl.GfInv(c.a); got != c.want {
			t.Errorf("GfInv of %d is %d, not %d", c.a, got, c.want)
		}
	}
	for _, c := range []struct{ a, b, want int64 }{{9, 7, 3}, {9, 3, 7}, {29, 2, 128}, {0, 5, 0}, {5, 0, 0}, {0, 0, 0}, {7, 7, 1}} {
		if got := impl.GfDiv(c.a, c.b); got != c.want {
			t.Errorf("%d by %d is %d, not %d", c.a, c.b, got, c.want)
		}
	}
}

// productByWords is the product as the document has it.
func productByWords(a int64, b int64) int64 {
	product := int64(0)
	for i := range 8 {
		product ^= (b & (1 << i)) * a
	}
	for product >= 256 {
		up := 0
		for product >= 512<<up {
			up++
		}
		product ^= 285 << up
	}
	return product
}

// Promise 7, of each pair: it does not matter which is first, and dividing undoes it.
func TestMultiplyingOfAllPairs(t *testing.T) {
	f := fieldByOther()
	for a := range int64(256) {
		for b := range int64(256) {
			product := impl.GfMul(a, b)
			if product != productByWords(a, b) || product != f.times(a, b) {
				t.Fatalf("%d times %d is %d, not %d", a, b, product, f.times(a, b))
			}
			if impl.GfMul(b, a) != product {
				t.Fatalf("%d times %d is not %d times %d", b, a, a, b)
			}
			if got := impl.GfDiv(a, b); got != f.by(a, b) {
				t.Fatalf("%d by %d is %d, not %d", a, b, got, f.by(a, b))
			}
			if b == 0 {
				continue
			}
			if impl.GfDiv(product, b) != a || impl.GfMul(impl.GfDiv(a, b), b) != a || impl.GfMul(product, impl.GfInv(b)) != a {
				t.Fatalf("%d times %d is not undone by dividing", a, b)
			}
		}
	}
}

// Promise 7, of sums: one by one. Each number is a sum of powers of 2, so these and some more are enough.
func TestMultiplyingGoesOverSums(t *testing.T) {
	others := append(someElements(), 4, 8, 16, 32, 64, 85, 170)
	for a := range int64(256) {
		for b := range int64(256) {
			for _, c := range others {
				if impl.GfMul(a, b^c) != impl.GfMul(a, b)^impl.GfMul(a, c) {
					t.Fatalf("%d times the sum of %d and %d is none of both", a, b, c)
				}
				if impl.GfMul(b^c, a) != impl.GfMul(b, a)^impl.GfMul(c, a) {
					t.Fatalf("the sum of %d and %d times %d is none of both", b, c, a)
				}
			}
		}
	}
}

func TestInverseOfAll(t *testing.T) {
	var seen [256]bool
	for a := int64(1); a < 256; a++ {
		inverse := impl.GfInv(a)
		if inverse < 1 || inverse > 255 || seen[inverse] {
			t.Fatalf("GfInv of %d is %d", a, inverse)
		}
		seen[inverse] = true
		if impl.GfMul(a, inverse) != 1 || productByWords(inverse, a) != 1 || impl.GfDiv(1, a) != inverse || impl.GfInv(inverse) != a {
			t.Errorf("%d and its GfInv %d do not make 1", a, inverse)
		}
	}
	if impl.GfInv(0) != 0 {
		t.Error("0 has a GfInv")
	}
}

func TestWrongElements(t *testing.T) {
	for _, wrong := range wrongElements() {
		if got := impl.GfInv(wrong); got != 0 {
			t.Errorf("GfInv of %d is %d", wrong, got)
		}
		for _, other := range append(someElements(), wrongElements()...) {
			for _, got := range []int64{impl.GfMul(wrong, other), impl.GfMul(other, wrong), impl.GfDiv(wrong, other), impl.GfDiv(other, wrong)} {
				if got != 0 {
					t.Errorf("GfMul or GfDiv of %d and %d is %d", wrong, other, got)
				}
			}
		}
	}
}

// someLines are places, so many, in no order and with the ends among them, and factors of as many powers.
func someLines(n int) ([][]int64, [][]int64) {
	rising, falling, mixed := make([]int64, n), make([]int64, n), make([]int64, n)
	low, high, ones := make([]int64, n), make([]int64, n), make([]int64, n)
	for i := range n {
		rising[i], falling[i], mixed[i] = int64(i), int64(255-i), int64(i*103+200)%256
		low[i], high[i], ones[i] = int64(i+1), int64(i*91+255)%256, 255
	}
	return [][]int64{rising, falling, mixed}, [][]int64{low, high, ones}
}

func TestInterp(t *testing.T) {
	f := fieldByOther()
	for n := 1; n <= 10; n++ {
		places, lines := someLines(n)
		for _, xs := range places {
			for _, factors := range lines {
				ys := make([]int64, n)
				for i, x := range xs {
					ys[i] = f.valueOf(factors, x)
				}
				for at := range int64(256) {
					if got, want := impl.Interp(xs, ys, at), f.valueOf(factors, at); got != want {
						t.Fatalf("Interp of %v and %v at %d is %d, not %d", xs, ys, at, got, want)
					}
				}
			}
		}
	}
}

// Whatever stands at the places: at one of them the line is what stands there, elsewhere it is Newton's.
func TestInterpOfAnyNumbers(t *testing.T) {
	f := fieldByOther()
	for n := 1; n <= 10; n++ {
		places, numbers := someLines(n)
		for _, xs := range places {
			for _, ys := range append(numbers, make([]int64, n)) {
				for i, x := range xs {
					if got := impl.Interp(xs, ys, x); got != ys[i] {
						t.Errorf("Interp of %v and %v at the place %d is %d", xs, ys, x, got)
					}
				}
				otherXs, otherYs := slices.Clone(xs), slices.Clone(ys)
				slices.Reverse(otherXs)
				slices.Reverse(otherYs)
				for at := range int64(256) {
					want := f.lineAt(xs, ys, at)
					if impl.Interp(xs, ys, at) != want || impl.Interp(otherXs, otherYs, at) != want {
						t.Fatalf("Interp of %v and %v at %d is %d, not %d", xs, ys, at, impl.Interp(xs, ys, at), want)
					}
				}
			}
		}
	}
	for _, y := range someElements() {
		for _, at := range someElements() {
			if got := impl.Interp([]int64{255}, []int64{y}, at); got != y {
				t.Errorf("Interp of one %d is %d at %d", y, got, at)
			}
		}
	}
}

func TestInterpOfWrongNumbers(t *testing.T) {
	for n := 1; n <= 10; n++ {
		places, lines := someLines(n)
		for c, xs := range places {
			ys := lines[c]
			for _, wrong := range wrongElements() {
				if got := impl.Interp(xs, ys, wrong); got != 0 {
					t.Errorf("Interp of %v and %v at %d is %d", xs, ys, wrong, got)
				}
				for i := range n {
					other := slices.Clone(xs)
					other[i] = wrong
					otherYs := slices.Clone(ys)
					otherYs[i] = wrong
					for _, at := range someElements() {
						if got := impl.Interp(other, ys, at); got != 0 {
							t.Errorf("Interp of %v and %v at %d is %d", other, ys, at, got)
						}
						if got := impl.Interp(xs, otherYs, at); got != 0 {
							t.Errorf("Interp of %v and %v at %d is %d", xs, otherYs, at, got)
						}
					}
				}
			}
		}
	}
}

func TestInterpOfWrongLists(t *testing.T) {
	lists := func(xs int, ys int) ([]int64, []int64) {
		a, b := make([]int64, xs), make([]int64, ys)
		for i := range a {
			a[i] = int64(i % 256)
		}
		for i := range b {
			b[i] = 7
		}
		return a, b
	}
	lengths := []int{0, 1, 2, 9, 10, 11, 12, 255, 256, impl.MaxList, impl.MaxList + 1, 1000}
	for _, n := range lengths {
		for _, m := range lengths {
			xs, ys := lists(n, m)
			want := int64(0)
			if n == m && n >= 1 && n <= 10 {
				want = 7
			}
			for _, at := range someElements() {
				if got := impl.Interp(xs, ys, at); got != want {
					t.Errorf("Interp of %d and %d elements at %d is %d, not %d", n, m, at, got, want)
				}
			}
		}
	}
	if impl.Interp(nil, nil, 0) != 0 || impl.Interp([]int64{1}, nil, 1) != 0 || impl.Interp(nil, []int64{1}, 1) != 0 {
		t.Error("Interp of none is more than 0")
	}
}

func TestInterpOfPlacesAlike(t *testing.T) {
	for n := 2; n <= 10; n++ {
		places, lines := someLines(n)
		for c, xs := range places {
			for i := range n {
				for j := range i {
					other := slices.Clone(xs)
					other[i] = other[j]
					for at := range int64(256) {
						if got := impl.Interp(other, lines[c], at); got != 0 {
							t.Fatalf("Interp of %v at %d is %d", other, at, got)
						}
						// Not even where the same stands at both.
						alike := slices.Clone(lines[c])
						alike[i] = alike[j]
						if got := impl.Interp(other, alike, at); got != 0 {
							t.Fatalf("Interp of %v, the same at both, at %d is %d", other, at, got)
						}
					}
				}
			}
		}
	}
}

func TestKnownSpreads(t *testing.T) {
	for _, c := range []struct {
		text string
		need int64
		more int64
		want []string
	}{
		{"abc", 2, 1, []string{"ab", "c\x00", "e\xa6"}},
		{"abc", 1, 0, []string{"abc"}},
		{"abc", 1, 4, []string{"abc", "abc", "abc", "abc", "abc"}},
		{"abc", 3, 0, []string{"a", "b", "c"}},
		{"a", 6, 0, []string{"a", "\x00", "\x00", "\x00", "\x00", "\x00"}},
		{"abcdefg", 6, 0, []string{"ab", "cd", "ef", "g\x00", "\x00\x00", "\x00\x00"}},
		{"\x00\x00\x00", 3, 2, []string{"\x00", "\x00", "\x00", "\x00", "\x00"}},
		{"\x07\x07\x07\x07\x07\x07", 6, 4, []string{"\x07", "\x07", "\x07", "\x07", "\x07", "\x07", "\x07", "\x07", "\x07", "\x07"}},
		{"\x05\x07", 2, 4, []string{"\x05", "\x07", "\x01", "\x03", "\x0d", "\x0f"}},
	} {
		if got := impl.Spread(c.text, c.need, c.more); !slices.Equal(got, c.want) {
			t.Errorf("Spread of %q to %d and %d is %q, not %q", c.text, c.need, c.more, got, c.want)
		}
	}
}

func TestSpreadOfEachSize(t *testing.T) {
	f := fieldByOther()
	for size := 1; size <= impl.MaxGroup; size++ {
		for need := 1; need <= impl.MaxNeed; need++ {
			for more := 0; more <= impl.MaxMore; more++ {
				text := textOf(size + 3)[3:]
				got := impl.Spread(text, int64(need), int64(more))
				if want := spreadByOther(f, text, need, more); !slices.Equal(got, want) {
					t.Fatalf("Spread of %d bytes to %d and %d is %q, not %q", size, need, more, got, want)
				}
			}
		}
	}
}

func TestSpreadRefuses(t *testing.T) {
	for _, c := range []struct {
		bytes int
		need  int64
		more  int64
	}{
		{0, 2, 1}, {0, 1, 0}, {0, 6, 4}, {101, 2, 1}, {101, 1, 0}, {101, 6, 4}, {impl.MaxBytes, 2, 1}, {impl.MaxBytes + 1, 2, 1},
		{3, 0, 1}, {3, 0, 0}, {3, -1, 2}, {3, 7, 1}, {100, 7, 0}, {3, math.MinInt64, 1}, {3, math.MaxInt64, 1}, {3, 1 << 32, 1},
		{3, 1<<32 + 2, 1}, {3, 2, -1}, {3, 6, -1}, {3, 2, 5}, {3, 1, 5}, {3, 2, math.MinInt64}, {3, 2, math.MaxInt64}, {3, 2, 1 << 32},
		{3, math.MaxInt64, math.MaxInt64}, {3, math.MinInt64, math.MinInt64}, {0, 0, -1}, {101, 7, 5},
	} {
		if got := impl.Spread(textOf(c.bytes), c.need, c.more); len(got) != 0 {
			t.Errorf("Spread of %d bytes to %d and %d has %d", c.bytes, c.need, c.more, len(got))
		}
	}
}

// Promise 8: as many as are needed tell the text, whichever they are, in whatever order they lie.
func TestGatheredFromEachChoice(t *testing.T) {
	for need := 1; need <= impl.MaxNeed; need++ {
		for more := 0; more <= impl.MaxMore; more++ {
			for _, size := range groupSizes(need) {
				text := textOf(size + 3)[3:]
				all := allShards(text, int64(need), int64(more))
				for bits := range 1 << (need + more) {
					l := chosen(all, bits)
					if len(l) != need {
						continue
					}
					for _, order := range ordersOf(l) {
						if got := impl.Gather(int64(need), int64(more), int64(size), order); got != (impl.TextOut{Text: text}) {
							t.Fatalf("%d of %d and %d, %d bytes, of the pieces %b: %+v", need, need, more, size, bits, got)
						}
					}
				}
			}
		}
	}
}

// Promise 8: more than are needed tell it too, fewer do not.
func TestGatheredFromFewerAndMore(t *testing.T) {
	for need := 1; need <= impl.MaxNeed; need++ {
		for more := 0; more <= impl.MaxMore; more++ {
			for _, size := range []int{1, 2*need + 1, impl.MaxGroup} {
				text := textOf(size + 9)[9:]
				all := allShards(text, int64(need), int64(more))
				for bits := range 1 << (need + more) {
					l := chosen(all, bits)
					want := impl.TextOut{Text: text}
					if len(l) < need {
						want = impl.TextOut{Code: impl.ErrShort}
					}
					falling := slices.Clone(l)
					slices.Reverse(falling)
					if impl.Gather(int64(need), int64(more), int64(size), l) != want || impl.Gather(int64(need), int64(more), int64(size), falling) != want {
						t.Fatalf("%d of %d and %d, %d bytes, of the pieces %b are not %+v", len(l), need, more, size, bits, want)
					}
				}
			}
		}
	}
}

// Promise 8: with one more than are needed a turned byte is seen, in whichever piece and place it is.
func TestTurnedPieceIsRefused(t *testing.T) {
	for need := 1; need <= impl.MaxNeed; need++ {
		for more := 1; more <= impl.MaxMore; more++ {
			for _, size := range []int{1, 2*need + 1} {
				all := allShards(textOf(size + 3)[3:], int64(need), int64(more))
				for bits := range 1 << (need + more) {
					l := chosen(all, bits)
					if len(l) != need+1 {
						continue
					}
					for which := range l {
						for at := range l[which].Data {
							for _, by := range []byte{1, 128, 255} {
								got := impl.Gather(int64(need), int64(more), int64(size), turnedShards(l, which, at, by))
								if got != (impl.TextOut{Code: impl.ErrSum}) {
									t.Fatalf("%d and %d, %d bytes, of the pieces %b the %d. turned at %d by %d: %+v", need, more, size, bits, which, at, by, got)
								}
							}
						}
					}
				}
			}
		}
	}
}

// However a byte is turned, in all pieces of a text of MaxGroup, in whatever order they lie.
func TestTurnedPieceOfMaxGroupIsRefused(t *testing.T) {
	all := allShards(textOf(impl.MaxGroup), 3, 2)
	slices.Reverse(all)
	for which := range all {
		for at := range len(all[which].Data) {
			for by := 1; by < 256; by++ {
				if got := impl.Gather(3, 2, impl.MaxGroup, turnedShards(all, which, at, byte(by))); got != (impl.TextOut{Code: impl.ErrSum}) {
					t.Fatalf("the %d. turned at %d by %d: %+v", which, at, by, got)
				}
			}
		}
	}
}

// With no more than are needed nothing tells that one is turned: another text has these pieces.
func TestTurnedPieceOfJustEnough(t *testing.T) {
	text := textOf(12)
	all := allShards(text, 3, 2)
	for bits := range 1 << 5 {
		l := chosen(all, bits)
		if len(l) != 3 {
			continue
		}
		for which := range l {
			for at := range len(l[which].Data) {
				other := turnedShards(l, which, at, 8)
				got := impl.Gather(3, 2, 12, other)
				if got.Code != impl.OK || got.At != 0 || len(got.Text) != 12 || got.Text == text {
					t.Fatalf("of the pieces %b the %d. turned at %d: %+v", bits, which, at, got)
				}
				told := impl.Spread(got.Text, 3, 2)
				for _, s := range other {
					if told[s.Index] != s.Data {
						t.Fatalf("of the pieces %b the %d. turned at %d: not the pieces of what is gathered", bits, which, at)
					}
				}
			}
		}
	}
}

// Pieces that belong together, but of a text that has more behind its size than bytes 0, are refused, whichever they are.
func TestBytesBehindTheText(t *testing.T) {
	for need := 2; need <= impl.MaxNeed; need++ {
		for _, more := range []int{0, 1, impl.MaxMore} {
			for _, length := range []int{1, 3} {
				whole := need * length
				for size := whole - need + 1; size < whole; size++ {
					for last := size; last < whole; last++ {
						filled := make([]byte, whole)
						copy(filled, textOf(size + 3)[3:])
						text := string(filled[:size])
						filled[last] = byte(last + 1)
						all := allShards(string(filled), int64(need), int64(more))
						for bits := range 1 << (need + more) {
							l := chosen(all, bits)
							if len(l) < need {
								continue
							}
							if got := impl.Gather(int64(need), int64(more), int64(size), l); got != (impl.TextOut{Code: impl.ErrSum}) {
								t.Fatalf("%q of %d and %d, then a byte at %d, of the pieces %b: %+v", text, need, more, last, bits, got)
							}
							if got := impl.Gather(int64(need), int64(more), int64(whole), l); got != (impl.TextOut{Text: string(filled)}) {
								t.Fatalf("%q of %d and %d, of the pieces %b: %+v", filled, need, more, bits, got)
							}
						}
					}
				}
			}
		}
	}
}

// A text that ends with bytes 0 has the pieces of the shorter one, if these are of one length.
func TestBytes0AtTheEnd(t *testing.T) {
	all := allShards("abcd\x00\x00", 3, 1)
	for _, want := range []string{"abcd", "abcd\x00", "abcd\x00\x00"} {
		if got := impl.Gather(3, 1, int64(len(want)), all); got != (impl.TextOut{Text: want}) {
			t.Errorf("%d bytes are gathered as %+v", len(want), got)
		}
	}
	if got := impl.Gather(3, 1, 3, all); got != (impl.TextOut{Code: impl.ErrForm}) {
		t.Errorf("3 bytes are gathered of pieces of 6 as %+v", got)
	}
}

func TestEachByteIsGathered(t *testing.T) {
	for b := range 256 {
		text := string([]byte{byte(b)})
		for need := int64(1); need <= impl.MaxNeed; need++ {
			all := allShards(text, need, need%5)
			if got := impl.Gather(need, need%5, 1, all[len(all)-int(need):]); got != (impl.TextOut{Text: text}) {
				t.Errorf("the byte %d of %d is gathered as %+v", b, need, got)
			}
		}
	}
}

type gatherCase struct {
	what string
	need int64
	more int64
	size int64
	l    []impl.Shard
	code int64
}

// manyShards is a list of so many, all of them the pieces of abcde, again and again.
func manyShards(n int) []impl.Shard {
	all := allShards("abcde", 3, 2)
	var l []impl.Shard
	for i := range n {
		l = append(l, all[i%len(all)])
	}
	return l
}

// wrongGroups are needs, mores and sizes that may not be, with Shards that fit them as far as may be, and with none.
func wrongGroups() []gatherCase {
	var l []gatherCase
	all := allShards("abcde", 3, 2)
	add := func(what string, need int64, more int64, size int64) {
		for _, shards := range [][]impl.Shard{nil, all[:1], all[:3], all} {
			l = append(l, gatherCase{fmt.Sprintf("%s, %d Shards", what, len(shards)), need, more, size, shards, impl.ErrForm})
		}
	}
	for _, n := range []int64{math.MinInt64, -1 << 32, -3, -1, 0, 7, 100, 1<<32 + 3, math.MaxInt64} {
		add(fmt.Sprintf("a need of %d", n), n, 2, 5)
		add(fmt.Sprintf("a need of %d, no more", n), n, 0, 5)
	}
	for _, n := range []int64{math.MinInt64, -1 << 32, -2, -1, 5, 100, 1<<32 + 2, math.MaxInt64 - 3, math.MaxInt64} {
		add(fmt.Sprintf("a more of %d", n), 3, n, 5)
	}
	for _, n := range []int64{math.MinInt64, -1, 0, 101, 102, 1<<32 + 5, math.MaxInt64 - 1, math.MaxInt64} {
		add(fmt.Sprintf("a size of %d", n), 3, 2, n)
	}
	add("nothing that may be", 0, -1, 0)
	empty := []impl.Shard{{Index: 0}, {Index: 1}, {Index: 2}}
	long := []impl.Shard{{Index: 0, Data: textOf(34)}, {Index: 1, Data: textOf(34)}, {Index: 2, Data: textOf(33) + "\x00"}}
	ones := []impl.Shard{{Index: 0, Data: "a"}, {Index: 1, Data: "b"}, {Index: 2, Data: "c"}, {Index: 3, Data: "d"},
		{Index: 4, Data: "e"}, {Index: 5, Data: "f"}, {Index: 6, Data: "g"}}
	return append(l,
		gatherCase{"a size of 0, empty Shards", 3, 2, 0, empty, impl.ErrForm},
		gatherCase{"a size of 101, Shards of 34 bytes", 3, 0, 101, long, impl.ErrForm},
		gatherCase{"a need of 7, 7 Shards", 7, 0, 7, ones, impl.ErrForm},
		gatherCase{"a need of 2, a more of 5, 2 Shards", 2, 5, 2, ones[:2], impl.ErrForm})
}

// withShard is the list, and one more Shard at that place of it.
func withShard(l []impl.Shard, place int, index int64, data string) []impl.Shard {
	return slices.Insert(slices.Clone(l), place, impl.Shard{Index: index, Data: data})
}

// wrongShards are Shards that may not be, ahead of, among and behind as many right ones as are needed, fewer and more.
func wrongShards() []gatherCase {
	var l []gatherCase
	all := allShards("abcde", 3, 2)
	for many := range 5 {
		for place := range many + 1 {
			add := func(what string, index int64, data string) {
				what = fmt.Sprintf("%s at %d among %d", what, place, many)
				l = append(l, gatherCase{what, 3, 2, 5, withShard(all[:many], place, index, data), impl.ErrForm})
			}
			for _, index := range []int64{math.MinInt64, -1 << 32, -5, -1, 5, 6, 10, 255, 256, 1 << 32, 1<<32 + 4, math.MaxInt64} {
				add(fmt.Sprintf("an Index of %d", index), index, "ab")
			}
			for _, bytes := range []int{0, 1, 3, 4, 5, impl.MaxGroup, impl.MaxBytes, impl.MaxBytes + 1} {
				add(fmt.Sprintf("a Shard of %d bytes", bytes), 4, textOf(bytes))
			}
			for i := range many {
				add(fmt.Sprintf("a second %d", i), int64(i), all[i].Data)
				add(fmt.Sprintf("another %d", i), int64(i), "xy")
			}
		}
	}
	return l
}

// The faults in their order: each case has those behind its own too, as far as these can come with it.
func TestGatherFaults(t *testing.T) {
	all := allShards("abcde", 3, 2)
	sum := turnedShards(all, 4, 1, 1)
	cases := []gatherCase{
		{"MaxList and one, nothing that may be", 0, -1, 0, manyShards(impl.MaxList + 1), impl.ErrSize},
		{"MaxList and one, a need of 7", 7, 2, 5, manyShards(impl.MaxList + 1), impl.ErrSize},
		{"MaxList and one", 3, 2, 5, manyShards(impl.MaxList + 1), impl.ErrSize},
		{"MaxList and one, none of which may be", 3, 2, 5, make([]impl.Shard, impl.MaxList+1), impl.ErrSize},
		{"MaxList", 3, 2, 5, manyShards(impl.MaxList), impl.ErrForm},
		{"MaxList, a need of 7", 7, 2, 5, manyShards(impl.MaxList), impl.ErrForm},
		{"one more than all", 3, 2, 5, manyShards(6), impl.ErrForm},
		{"a wrong Index, and one turned", 3, 2, 5, withShard(sum[1:], 4, 5, "ab"), impl.ErrForm},
		{"a Shard too short, and one turned", 3, 2, 5, withShard(sum[1:], 4, 0, "a"), impl.ErrForm},
		{"a Shard too long, and one turned", 3, 2, 5, withShard(sum[1:], 0, 0, "abc"), impl.ErrForm},
		{"a second one, and one turned", 3, 2, 5, withShard(sum, 0, 0, "ab"), impl.ErrForm},
		{"a second one, of fewer than are needed", 3, 2, 5, withShard(all[:1], 1, 0, "ab"), impl.ErrForm},
		{"a second one, of one too few", 3, 2, 5, withShard(all[:2], 1, 0, "ab"), impl.ErrForm},
		{"no more, the first one more", 3, 0, 5, all[:4], impl.ErrForm},
		{"no Shard", 3, 2, 5, nil, impl.ErrShort},
		{"no Shard, an empty list", 3, 2, 5, []impl.Shard{}, impl.ErrShort},
		{"no Shard of one", 1, 0, 1, nil, impl.ErrShort},
		{"one fewer", 3, 2, 5, all[3:], impl.ErrShort},
		{"one fewer, turned", 3, 2, 5, sum[3:], impl.ErrShort},
		{"one fewer of the most", 6, 4, 100, allShards(textOf(100), 6, 4)[5:], impl.ErrShort},
		{"one turned", 3, 2, 5, sum, impl.ErrSum},
		{"a byte behind the text", 3, 2, 5, turnedShards(all, 2, 1, 1)[:3], impl.ErrSum},
		{"all that are needed", 3, 2, 5, all[2:], impl.OK},
		{"all", 3, 2, 5, all, impl.OK},
	}
	cases = append(append(cases, wrongGroups()...), wrongShards()...)
	for _, c := range cases {
		want := impl.TextOut{Code: c.code}
		if c.code == impl.OK {
			want.Text = "abcde"
		}
		if got := impl.Gather(c.need, c.more, c.size, c.l); got != want {
			t.Errorf("Gather of %s: %+v, not the code %d", c.what, got, c.code)
		}
	}
}

func TestGatherEdges(t *testing.T) {
	for _, need := range []int64{1, impl.MaxNeed} {
		for _, more := range []int64{0, impl.MaxMore} {
			for _, size := range []int64{1, impl.MaxGroup} {
				text := textOf(int(size))
				all := allShards(text, need, more)
				if got := impl.Gather(need, more, size, all); got != (impl.TextOut{Text: text}) {
					t.Errorf("%d bytes of %d and %d are gathered as %+v", size, need, more, got)
				}
				last := withShard(all[:need-1], 0, need+more-1, all[need+more-1].Data)
				if got := impl.Gather(need, more, size, last); got != (impl.TextOut{Text: text}) {
					t.Errorf("%d bytes of %d and %d are gathered with the last piece as %+v", size, need, more, got)
				}
			}
		}
	}
}

// What is handed in is not changed, not even behind the ends of the lists, and nothing handed back lies there.
func TestFieldHandedInIsNotChanged(t *testing.T) {
	for _, order := range ordersOf(allShards(textOf(40), 4, 0)) {
		spare := append(slices.Clone(order), impl.Shard{Index: -7, Data: "spare"}, impl.Shard{Index: -8, Data: "spare"})
		before := slices.Clone(spare)
		for many := range 5 {
			got := impl.Gather(4, 0, 40, spare[:many])
			for _, s := range spare {
				if shares(got.Text, s.Data) {
					t.Error("what is gathered shares memory with a Shard")
				}
			}
		}
		impl.Gather(0, 0, 40, spare)
		impl.Gather(4, 0, 40, spare)
		if !slices.Equal(spare, before) {
			t.Errorf("Gather has changed its list to %v", spare)
		}
	}
	places, lines := someLines(10)
	for c := range places {
		xs, ys := slices.Clone(places[c]), slices.Clone(lines[c])
		for n := range 11 {
			impl.Interp(xs[:n], ys[:n], 77)
		}
		if !slices.Equal(xs, places[c]) || !slices.Equal(ys, lines[c]) {
			t.Error("Interp has changed a list")
		}
	}
}

func TestPiecesShareNothing(t *testing.T) {
	for need := int64(1); need <= impl.MaxNeed; need++ {
		for _, size := range []int{2, 12, impl.MaxGroup} {
			for _, more := range []int64{0, impl.MaxMore} {
				text := textOf(size)
				l, again := impl.Spread(text, need, more), impl.Spread(text, need, more)
				for i, piece := range l {
					if shares(piece, text) || shares(piece, again[i]) {
						t.Errorf("the piece %d of %d bytes shares memory", i, size)
					}
					for _, other := range l[:i] {
						if shares(piece, other) {
							t.Errorf("the piece %d of %d bytes shares memory with another one", i, size)
						}
					}
				}
				clear(l[:cap(l)])
				if third := impl.Spread(text, need, more); !slices.Equal(third, again) || text != textOf(size) {
					t.Error("what was handed back is kept")
				}
			}
		}
	}
	one := []impl.Shard{{Index: 0, Data: textOf(50)}}
	if got := impl.Gather(1, 0, 50, one); got.Text != one[0].Data || shares(got.Text, one[0].Data) {
		t.Error("what is gathered of one Shard shares its memory")
	}
}
