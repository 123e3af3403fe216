package tests

import (
	"encoding/binary"
	"fmt"
	"math"
	"slices"
	"strings"
	"testing"

	"loop.example/g00626/impl"
)

// scan takes numbers and texts from a text by other means; lost, as soon as one does not stand there.
type scan struct {
	rest string
	lost bool
}

func (s *scan) number() int64 {
	n, many := binary.Varint([]byte(s.rest))
	if s.lost = s.lost || many <= 0; s.lost {
		return 0
	}
	s.rest = s.rest[many:]
	return n
}

func (s *scan) text() string {
	n := s.number()
	if s.lost = s.lost || n < 0 || n > int64(len(s.rest)); s.lost {
		return ""
	}
	text := s.rest[:n]
	s.rest = s.rest[n:]
	return text
}

// treeOfBody and opsOfBody are what a body tells; false, if it is not the bytes of a right tree, of right ops.
func treeOfBody(body string) (impl.Tree, bool) {
	var t impl.Tree
	s := &scan{rest: body}
	for many := s.number(); many > 0 && !s.lost; many-- {
		t.Files = append(t.Files, impl.File{Path: s.text(), Mode: s.number(), Data: s.text()})
	}
	return t, !s.lost && treeByOther(t) && treeBytesByOther(t) == body
}

func opsOfBody(body string) ([]impl.Op, bool) {
	var l []impl.Op
	s := &scan{rest: body}
	for many := s.number(); many > 0 && !s.lost; many-- {
		o := impl.Op{Kind: s.number(), Path: s.text(), Mode: s.number(), Data: s.text()}
		for steps := s.number(); steps > 0 && !s.lost; steps-- {
			o.Steps = append(o.Steps, impl.Step{From: s.number(), Many: s.number(), Text: s.text()})
		}
		l = append(l, o)
	}
	right := len(l) <= 12 && !slices.ContainsFunc(l, func(o impl.Op) bool { return !opByOther(o) })
	return l, !s.lost && right && opsBytesByOther(l) == body
}

// objectByOther tells by other means whether an object is right.
func objectByOther(o impl.Object) bool {
	if o.Gen < 1 || o.Gen > 1000000 {
		return false
	}
	if o.Base == -1 {
		_, right := treeOfBody(o.Body)
		return right && o.Was == "" && o.Is == digestByOther(o.Body)
	}
	_, right := opsOfBody(o.Body)
	return right && 0 <= o.Base && o.Base < o.Gen && len(o.Was) == 32 && len(o.Is) == 32
}

// objectBytesByOther are the bytes of an object, right or not, made by other means.
func objectBytesByOther(o impl.Object) string {
	return sealedNums(textByOther(o.Was)+textByOther(o.Is)+textByOther(o.Body), o.Gen, o.Base)
}

func treeDigestByOther(t impl.Tree) string {
	return digestByOther(treeBytesByOther(t))
}

// keyByOther and deltaObject are what is told on of right trees, made by other means.
func keyByOther(gen int64, t impl.Tree) impl.Object {
	return impl.Object{Gen: gen, Base: -1, Is: treeDigestByOther(t), Body: treeBytesByOther(t)}
}

func deltaObject(gen int64, base int64, a impl.Tree, b impl.Tree) impl.Object {
	return opsObject(gen, base, a, b, deltaByOther(a, b)...)
}

// opsObject is an object that says to make b of a by some ops, whatever comes by these.
func opsObject(gen int64, base int64, a impl.Tree, b impl.Tree, l ...impl.Op) impl.Object {
	return impl.Object{Gen: gen, Base: base, Was: treeDigestByOther(a), Is: treeDigestByOther(b), Body: opsBytesByOther(l)}
}

// objectDoByOther tells by other means what comes of any tree by any object.
func objectDoByOther(t impl.Tree, gen int64, o impl.Object) impl.TreeOut {
	switch {
	case !treeByOther(t) || gen < 0 || gen > 1000000 || !objectByOther(o):
		return impl.TreeOut{Code: impl.ErrForm}
	case o.Gen <= gen:
		return impl.TreeOut{Code: impl.ErrRange}
	case o.Base == -1:
		whole, _ := treeOfBody(o.Body)
		return impl.TreeOut{Tree: whole}
	case o.Base != gen || o.Was != treeDigestByOther(t):
		return impl.TreeOut{Code: impl.ErrState}
	}
	l, _ := opsOfBody(o.Body)
	out := deltaDoByOther(t, l)
	if out.Code == impl.OK && treeDigestByOther(out.Tree) != o.Is {
		return impl.TreeOut{Code: impl.ErrSum}
	}
	return out
}

// checkDo asks what comes of a tree by an object.
func checkDo(t *testing.T, what string, tree impl.Tree, gen int64, o impl.Object, want impl.TreeOut) {
	t.Helper()
	if got := impl.ObjectDo(tree, gen, o); !sameTreeOut(got, want) {
		t.Fatalf("ObjectDo, %s: the code %d and %+v, not %d and %+v", what, got.Code, got.Tree, want.Code, want.Tree)
	}
}

// checkTold asks whether an object that was told is that one, is right, and comes back from its bytes.
func checkTold(t *testing.T, what string, got impl.ObjectOut, want impl.Object) impl.Object {
	t.Helper()
	if got != (impl.ObjectOut{Object: want}) {
		t.Fatalf("%s: told is %+v, not %+v", what, got, want)
	}
	text := impl.ObjectBytes(got.Object)
	if !impl.ObjectRight(got.Object) || text != objectBytesByOther(want) {
		t.Fatalf("%s: %+v is not right, or has the bytes %x", what, got.Object, text)
	}
	read := impl.ObjectRead(text)
	if read != (impl.ObjectOut{Object: want}) {
		t.Fatalf("%s: %+v comes back as %+v", what, want, read)
	}
	return read.Object
}

// checkObjects asks promise 12 of two right trees: what is told of them, read again from its bytes, makes of a, which is that of
// base, b, which is that of gen; and what has changed makes of a of another number, and of another tree, nothing.
func checkObjects(t *testing.T, gen int64, base int64, a impl.Tree, b impl.Tree, others ...impl.Tree) {
	t.Helper()
	what := fmt.Sprintf("of %d from %d, from %+v to %+v", gen, base, a, b)
	key := checkTold(t, "the key "+what, impl.ObjectKey(gen, b), keyByOther(gen, b))
	delta := checkTold(t, "the delta "+what, impl.ObjectDelta(gen, base, a, b), deltaObject(gen, base, a, b))
	made := impl.TreeOut{Tree: b}
	checkDo(t, "the key "+what, a, base, key, made)
	checkDo(t, "the key "+what+", of no files", impl.Tree{}, 0, key, made)
	checkDo(t, "the key "+what+", once more", b, gen, key, impl.TreeOut{Code: impl.ErrRange})
	checkDo(t, "the delta "+what, a, base, delta, made)
	checkDo(t, "the delta "+what+", once more", b, gen, delta, impl.TreeOut{Code: impl.ErrRange})
	if base > 0 {
		checkDo(t, "the delta "+what+", a of the number ahead", a, base-1, delta, impl.TreeOut{Code: impl.ErrState})
	}
	if base+1 < gen {
		checkDo(t, "the delta "+what+", a of the number behind", a, base+1, delta, impl.TreeOut{Code: impl.ErrState})
	}
	for _, other := range others {
		want := impl.TreeOut{Code: impl.ErrState}
		if slices.Equal(other.Files, a.Files) {
			want = made
		}
		checkDo(t, "the key "+what+", of another tree", other, base, key, made)
		checkDo(t, "the delta "+what+", of another tree", other, base, delta, want)
	}
}

func TestObjectConstants(t *testing.T) {
	if impl.NoBase != -1 {
		t.Error("NoBase is another one")
	}
}

func TestKnownObjects(t *testing.T) {
	none, one := impl.Tree{}, impl.Tree{Files: []impl.File{{Path: "a", Mode: 1, Data: "one"}}}
	more := impl.Tree{Files: []impl.File{{Path: "a", Mode: 1, Data: "one!"}}}
	noneIs := "\x6e\x34\x0b\x9c\xff\xb3\x7a\x98\x9c\xa5\x44\xe6\xbb\x78\x0a\x2c\x78\x90\x1d\x3f\xb3\x37\x38\x76\x85\x11\xa3\x06\x17\xaf\xa0\x1d"
	oneIs, moreIs := digestByOther("\x02\x02a\x02\x06one"), digestByOther("\x02\x02a\x02\x08one!")
	for _, c := range []struct {
		what string
		got  impl.ObjectOut
		want impl.Object
		text string
	}{
		{"the key of no files", impl.ObjectKey(1, none), impl.Object{Gen: 1, Base: -1, Is: noneIs, Body: "\x00"}, "\x02\x01\x00\x40" + noneIs + "\x02\x00"},
		{"the key of one file", impl.ObjectKey(64, one), impl.Object{Gen: 64, Base: -1, Is: oneIs, Body: "\x02\x02a\x02\x06one"},
			"\x80\x01\x01\x00\x40" + oneIs + "\x10\x02\x02a\x02\x06one"},
		{"of no files nothing has changed", impl.ObjectDelta(1, 0, none, none), impl.Object{Gen: 1, Was: noneIs, Is: noneIs, Body: "\x00"},
			"\x02\x00\x40" + noneIs + "\x40" + noneIs + "\x02\x00"},
		{"a file goes", impl.ObjectDelta(impl.MaxTime, 3, one, none), impl.Object{Gen: 1000000, Base: 3, Was: oneIs, Is: noneIs, Body: "\x02\x04\x02a\x00\x00\x00"},
			"\x80\x89\x7a\x06\x40" + oneIs + "\x40" + noneIs + "\x0e\x02\x04\x02a\x00\x00\x00"},
		{"a file has more", impl.ObjectDelta(4, 3, one, more),
			impl.Object{Gen: 4, Base: 3, Was: oneIs, Is: moreIs, Body: "\x02\x06\x02a\x02\x00\x04\x00\x06\x00\x00\x00\x02!"},
			"\x08\x06\x40" + oneIs + "\x40" + moreIs + "\x1c\x02\x06\x02a\x02\x00\x04\x00\x06\x00\x00\x00\x02!"},
	} {
		if got := checkTold(t, c.what, c.got, c.want); got != c.want {
			t.Errorf("%s: %+v, not %+v", c.what, got, c.want)
		}
		if got := impl.ObjectBytes(c.want); got != sealedByOther(c.text) {
			t.Errorf("%s: the bytes are %x, not the seal of %x", c.what, got, c.text)
		}
	}
}

// Promise 12, of all pairs of trees of some of six paths; those that both have differ in all ways.
func TestObjectsOfTheSamePaths(t *testing.T) {
	trees := treesOf([]string{"b", "d/e", "d/g/h", "f.x", "h-1", "j"}, impl.MaxFiles)
	way := 0
	for i, a := range trees {
		for j, b := range trees {
			other := treeCopy(b)
			for at, f := range other.Files {
				other.Files[at] = otherFile(f, way)
				way += 5
			}
			checkObjects(t, int64(i+j+1), int64(i), a, other, trees[(i+j)%len(trees)])
			checkObjects(t, int64(64*j+64), int64(64*j), other, a, treeOf("a"))
		}
		checkObjects(t, int64(i+1), int64(i), a, a, otherTree(a, 8))
		checkObjects(t, int64(i+2), int64(i), a, treeCopy(a), treeCopy(a))
	}
}

// Promise 12: the delta of each tree makes of no other one anything, even if both differ in one thing alone.
func TestObjectsOfUnlikeTrees(t *testing.T) {
	trees := unlikeTrees()
	for i, a := range trees {
		checkObjects(t, 301, 300, a, trees[(i+1)%len(trees)], trees...)
		checkObjects(t, 301, 300, a, trees[(i+len(trees)/2)%len(trees)], a, treeCopy(a))
	}
}

// Promise 12, of trees of paths of which some stand ahead of a / of others, and of full ones of no path alike.
func TestObjectsOfClosePaths(t *testing.T) {
	var right []impl.Tree
	for _, tree := range treesOf([]string{"a", "a-b", "a/b", "a/b/c", "b", "b/a"}, impl.MaxFiles) {
		if treeByOther(tree) {
			right = append(right, tree)
		}
	}
	for i, a := range right {
		for j, b := range right {
			checkObjects(t, int64(i+j+1), int64(j), a, otherTree(b, i+j))
		}
	}
	a, b := treeOf("a", "b", "c", "d", "e", "f"), treeOf("a/x", "b/x", "c/x", "d/x", "e/x", "f/x")
	for _, pair := range [][2]impl.Tree{{a, b}, {b, a}, {otherTree(b, 6), otherTree(a, 7)}, {otherTree(a, 15), otherTree(b, 14)}, {fullTree(), a}, {{}, otherTree(a, 6)}, {b, {}}} {
		checkObjects(t, impl.MaxTime, impl.MaxTime-1, pair[0], pair[1], a, b, impl.Tree{})
	}
}

// Promise 12, of trees that are right or not: of one that is not nothing is told on, and nothing is made.
func TestObjectsOfTreesOfEachEdge(t *testing.T) {
	form := impl.ObjectOut{Code: impl.ErrForm}
	some := treeOf("a", "y")
	key, delta := keyByOther(5, some), deltaObject(5, 4, some, fullTree())
	for _, c := range treeCases() {
		if c.right {
			checkObjects(t, 5, 4, c.tree, some, impl.Tree{}, some)
			checkObjects(t, 5, 4, some, c.tree, impl.Tree{}, some)
			continue
		}
		if got := impl.ObjectKey(5, c.tree); got != form {
			t.Errorf("ObjectKey of a tree of %s: %+v", c.what, got)
		}
		for _, other := range []impl.Tree{some, {}, c.tree} {
			for _, base := range []int64{impl.NoBase, 0, 4, 5} {
				if got := impl.ObjectDelta(5, base, c.tree, other); got != form {
					t.Errorf("ObjectDelta from %d, of a tree of %s and another one: %+v", base, c.what, got)
				}
				if got := impl.ObjectDelta(5, base, other, c.tree); got != form {
					t.Errorf("ObjectDelta from %d, of another tree and one of %s: %+v", base, c.what, got)
				}
			}
		}
		// Even of an object that was made for it, and of numbers that may not be.
		for _, o := range []impl.Object{key, delta, opsObject(5, 4, c.tree, some), {}} {
			for _, gen := range []int64{-1, 0, 4, 5, 6, impl.MaxTime + 1} {
				checkDo(t, fmt.Sprintf("a tree of %s, of %d", c.what, gen), c.tree, gen, o, impl.TreeOut{Code: impl.ErrForm})
			}
		}
	}
}

// The numbers of what is told on: each at the edges of what it may be, beside each other one.
func TestObjectsOfEachNumber(t *testing.T) {
	a, b := treeOf("a", "b/c"), treeOf("b/c", "d")
	told, refused := 0, 0
	numbers := farNumbers(0, 1, 300, impl.MaxTime)
	for _, gen := range numbers {
		right := gen >= 1 && gen <= impl.MaxTime
		if got := impl.ObjectKey(gen, b); right {
			checkTold(t, fmt.Sprintf("the key of %d", gen), got, keyByOther(gen, b))
		} else if got != (impl.ObjectOut{Code: impl.ErrForm}) {
			t.Errorf("the key of %d: %+v", gen, got)
		}
		for _, base := range append(numbers, gen-2, gen-1, gen, gen+1) {
			what, got := fmt.Sprintf("the delta of %d from %d", gen, base), impl.ObjectDelta(gen, base, a, b)
			if right && base >= 0 && base < gen {
				told++
				checkObjects(t, gen, base, a, b, b)
				continue
			}
			refused++
			if got != (impl.ObjectOut{Code: impl.ErrForm}) {
				t.Errorf("%s: %+v", what, got)
			}
			// No trees make a whole one of what has changed, though both bodies have the same bytes.
			for _, wrong := range []impl.Tree{{}, treeOf("b", "a")} {
				if got := impl.ObjectDelta(gen, base, wrong, impl.Tree{}); got != (impl.ObjectOut{Code: impl.ErrForm}) {
					t.Errorf("%s, of no files: %+v", what, got)
				}
			}
		}
	}
	if told < 20 || refused < 20 {
		t.Errorf("%d deltas are told, and %d refused", told, refused)
	}
}

type objectCase struct {
	what   string
	object impl.Object
	right  bool
}

// numberObjects are objects of which Gen or Base lie at the edges of what they may be.
func numberObjects() []objectCase {
	var l []objectCase
	a, b := treeOf("a", "b/c"), treeOf("b/c", "d")
	key := keyByOther(5, b)
	for _, gen := range farNumbers(1, impl.MaxTime) {
		l = append(l, objectCase{fmt.Sprintf("a whole one of the Gen %d", gen), keyByOther(gen, b), gen >= 1 && gen <= impl.MaxTime})
		l = append(l, objectCase{fmt.Sprintf("one of the Gen %d, from 0", gen), deltaObject(gen, 0, a, b), gen >= 1 && gen <= impl.MaxTime})
		l = append(l, objectCase{fmt.Sprintf("one of the Gen %d, from one less", gen), deltaObject(gen, gen-1, a, b), gen >= 1 && gen <= impl.MaxTime})
	}
	for _, gen := range []int64{1, 2, 5, 300, impl.MaxTime} {
		for _, base := range farNumbers(impl.NoBase, gen) {
			l = append(l, objectCase{fmt.Sprintf("one of the Gen %d, from %d", gen, base), deltaObject(gen, base, a, b), base >= 0 && base < gen})
			whole := keyByOther(gen, b)
			whole.Base = base
			l = append(l, objectCase{fmt.Sprintf("a whole one of the Gen %d, from %d", gen, base), whole, base == -1})
			bare := deltaObject(gen, base, a, b)
			bare.Was = ""
			l = append(l, objectCase{fmt.Sprintf("one of the Gen %d, from %d, without Was", gen, base), bare, false})
			both := impl.Object{Gen: gen, Base: base, Was: key.Is, Is: digestByOther("\x00"), Body: "\x00"}
			l = append(l, objectCase{fmt.Sprintf("one of no ops and no files, of the Gen %d, from %d", gen, base), both, base >= 0 && base < gen})
		}
	}
	return append(l, objectCase{"nothing", impl.Object{}, false})
}

// digestObjects are objects of which Was or Is lie at the edges of what they may be.
func digestObjects() []objectCase {
	var l []objectCase
	a, b := treeOf("a", "b/c"), treeOf("b/c", "d")
	for _, n := range []int{0, 1, 16, 31, 32, 33, 64, 256 + 32, impl.MaxBytes, impl.MaxBytes + 1} {
		was, is, both, key, whole := deltaObject(5, 4, a, b), deltaObject(5, 4, a, b), deltaObject(5, 4, a, b), keyByOther(5, b), keyByOther(5, b)
		was.Was, is.Is, both.Was, both.Is, key.Was, whole.Is = textOf(n), textOf(n), textOf(n), textOf(n), textOf(n), textOf(n)
		l = append(l, objectCase{fmt.Sprintf("a Was of %d bytes", n), was, n == 32})
		l = append(l, objectCase{fmt.Sprintf("an Is of %d bytes", n), is, n == 32})
		l = append(l, objectCase{fmt.Sprintf("a Was and an Is of %d bytes", n), both, n == 32})
		l = append(l, objectCase{fmt.Sprintf("a whole one with a Was of %d bytes", n), key, n == 0})
		l = append(l, objectCase{fmt.Sprintf("a whole one with an Is of %d bytes", n), whole, false})
	}
	for _, wrong := range [][2]int{{31, 33}, {33, 31}, {0, 64}, {64, 0}, {32, 0}, {0, 32}} {
		o := deltaObject(5, 4, a, b)
		o.Was, o.Is = textOf(wrong[0]), textOf(wrong[1])
		l = append(l, objectCase{fmt.Sprintf("a Was of %d and an Is of %d bytes", wrong[0], wrong[1]), o, false})
	}
	is := keyByOther(5, b).Is
	for what, other := range map[string]string{"another tree's": treeDigestByOther(a), "one of no files": digestByOther("\x00"), "one of no bytes": digestByOther(""),
		"one of its digest": digestByOther(is), "cut": is[:31], "with a byte more": is + "\x00", "told twice": is + is, "of 32 bytes 0": strings.Repeat("\x00", 32)} {
		o := keyByOther(5, b)
		o.Is = other
		l = append(l, objectCase{"a whole one with an Is " + what, o, false})
	}
	for at := range is {
		for bit := range 8 {
			key, delta := keyByOther(5, b), deltaObject(5, 4, a, b)
			key.Is, delta.Is = turned(is, at, 1<<bit), turned(delta.Is, at, 1<<bit)
			l = append(l, objectCase{fmt.Sprintf("a whole one with an Is turned at %d, bit %d", at, bit), key, false})
			l = append(l, objectCase{fmt.Sprintf("one with an Is turned at %d, bit %d", at, bit), delta, true})
		}
	}
	was := keyByOther(5, b)
	was.Was = was.Is
	return append(l, objectCase{"a whole one with its Is as Was", was, false})
}

// bodyObjects are a whole object and one of ops of that body, Is its digest.
func bodyObjects(what string, body string, tree bool, ops bool) []objectCase {
	key := impl.Object{Gen: 5, Base: impl.NoBase, Is: digestByOther(body), Body: body}
	delta := impl.Object{Gen: 5, Base: 4, Was: digestByOther("\x00"), Is: digestByOther(body), Body: body}
	return []objectCase{{"a whole one, its Body " + what, key, tree}, {"one, its Body " + what, delta, ops}}
}

// bodyCases are objects of which the Body lies at the edges of what it may be.
func bodyCases() []objectCase {
	l := bodyObjects("the bytes of none", "\x00", true, true)
	for _, c := range treeCases() {
		l = append(l, bodyObjects("a tree of "+c.what, treeBytesByOther(c.tree), c.right, len(c.tree.Files) == 0)...)
	}
	for _, c := range opCases() {
		l = append(l, bodyObjects("an op of "+c.what, opsBytesByOther([]impl.Op{c.op}), false, c.right)...)
	}
	for _, n := range []int{2, 11, 12, 13, 256, 257, impl.MaxList, impl.MaxList + 1} {
		l = append(l, bodyObjects(fmt.Sprintf("%d ops", n), opsBytesByOther(slices.Repeat([]impl.Op{putOp("a", 1, "x")}, n)), false, n <= 12)...)
	}
	long := patchOp(strings.Repeat("p", 20), 511, says(textOf(80)), says(textOf(80)), says(textOf(80)))
	l = append(l, bodyObjects("the longest ops", opsBytesByOther(slices.Repeat([]impl.Op{long}, 12)), false, true)...)
	// What can't be read tells no files, but is not the bytes of none.
	for _, body := range []string{"", "\x01", "\x80", "\x00\x00", "\x02", "\x80\x00"} {
		o := impl.Object{Gen: 5, Base: impl.NoBase, Is: digestByOther("\x00"), Body: body}
		l = append(l, objectCase{fmt.Sprintf("a whole one, its Is of no files, its Body %x", body), o, false})
	}
	for _, c := range treeFaults() {
		l = append(l, bodyObjects("no tree, "+c.what, c.text, false, false)...)
	}
	for _, c := range opsFaults() {
		l = append(l, bodyObjects("no ops, "+c.what, c.text, false, false)...)
	}
	return l
}

func objectCases() []objectCase {
	return slices.Concat(numberObjects(), digestObjects(), bodyCases())
}

// Promise 12: a right object comes back from its bytes; one that is not has none, what would be these is refused, and nothing is made by it.
func TestObjectOfEachEdge(t *testing.T) {
	right, form := 0, impl.TreeOut{Code: impl.ErrForm}
	for _, c := range objectCases() {
		if objectByOther(c.object) != c.right {
			t.Fatalf("the test is of two minds whether %s is right", c.what)
		}
		if got := impl.ObjectRight(c.object); got != c.right {
			t.Errorf("%s: ObjectRight is %v", c.what, got)
		}
		if c.right {
			right++
			checkTold(t, c.what, impl.ObjectOut{Object: c.object}, c.object)
			continue
		}
		if got := impl.ObjectBytes(c.object); got != "" {
			t.Errorf("%s: the bytes are %x", c.what, got)
		}
		text := objectBytesByOther(c.object)
		want := impl.ObjectOut{Code: impl.ErrSyntax}
		if len(text) > impl.MaxBytes {
			want.Code = impl.ErrSize
		}
		if got := impl.ObjectRead(text); got != want {
			t.Errorf("%s: read as %+v, not the code %d", c.what, got, want.Code)
		}
		for _, gen := range []int64{-1, 0, 4, 5, impl.MaxTime, impl.MaxTime + 1} {
			checkDo(t, c.what, treeOf("a", "b/c"), gen, c.object, form)
			checkDo(t, c.what+", of no files", impl.Tree{}, gen, c.object, form)
		}
	}
	if right < 100 {
		t.Errorf("only %d objects are right", right)
	}
}

// No two objects have the same bytes: each number, and each text, is told by them.
func TestObjectBytesTellAll(t *testing.T) {
	seen := map[string]impl.Object{}
	for _, c := range objectCases() {
		if text := impl.ObjectBytes(c.object); text != "" {
			if other, there := seen[text]; there && other != c.object {
				t.Errorf("%+v and %+v have the same bytes", other, c.object)
			}
			seen[text] = c.object
		}
	}
	if len(seen) < 100 {
		t.Errorf("only %d objects have bytes", len(seen))
	}
}

// faultTree is a full tree of which faultOps tell each code that ops can.
func faultTree() impl.Tree {
	return impl.Tree{Files: []impl.File{{Path: "b", Mode: 7, Data: "abc"}, {Path: "c/d", Mode: 1, Data: textOf(80)}, {Path: "e"}, {Path: "f"}, {Path: "g"}, {Path: "h"}}}
}

func faultOps() map[int64]impl.Op {
	return map[int64]impl.Op{
		impl.OK:       putOp("b", 1, "one"),
		impl.ErrNone:  dropOp("z"),
		impl.ErrState: putOp("b/x", 1, "x"),
		impl.ErrRange: patchOp("b", 1, takes(0, 4)),
		impl.ErrFull:  patchOp("c/d", 1, takes(0, 80), takes(0, 1)),
	}
}

// The faults of ObjectDo, in their order.
func TestObjectDoFaults(t *testing.T) {
	a, b := faultTree(), treeOf("b", "x")
	other, wrong := treeOf("b"), treeOf("b", "a")
	key, delta := keyByOther(5, b), deltaObject(5, 3, a, b)
	ops := faultOps()
	none := func(base int64, was impl.Tree) impl.Object { return opsObject(5, base, was, b, ops[impl.ErrNone]) }
	sum := opsObject(5, 3, a, b, ops[impl.OK])
	bad, old := delta, opsObject(3, 2, a, b, ops[impl.ErrNone])
	bad.Is = bad.Is[1:]
	code := func(c int64) impl.TreeOut { return impl.TreeOut{Code: c} }
	made := impl.TreeOut{Tree: b}
	for _, c := range []struct {
		what string
		tree impl.Tree
		gen  int64
		o    impl.Object
		want impl.TreeOut
	}{
		{"all is right", a, 3, delta, made},
		{"a whole one, and its tree", b, 4, key, made},
		{"a whole one, and another tree", a, 0, key, made},
		{"a whole one, and no files", impl.Tree{}, 4, key, made},
		{"a whole one of no files", a, 4, keyByOther(5, impl.Tree{}), impl.TreeOut{}},
		{"one to no files", a, 4, deltaObject(5, 4, a, impl.Tree{}), impl.TreeOut{}},
		{"one from no files", impl.Tree{}, 0, deltaObject(1, 0, impl.Tree{}, b), made},
		{"of the greatest numbers", a, impl.MaxTime - 1, deltaObject(impl.MaxTime, impl.MaxTime-1, a, b), made},
		{"a whole one of the greatest number", a, impl.MaxTime - 1, keyByOther(impl.MaxTime, b), made},
		{"the tree alone", wrong, 3, delta, code(impl.ErrForm)},
		{"the tree alone, a whole one", wrong, 3, key, code(impl.ErrForm)},
		{"the tree alone, for which it was made", wrong, 3, opsObject(5, 3, wrong, b), code(impl.ErrForm)},
		{"the object alone", a, 3, bad, code(impl.ErrForm)},
		{"the object alone, nothing", a, 3, impl.Object{}, code(impl.ErrForm)},
		{"the number alone, -1", a, -1, delta, code(impl.ErrForm)},
		{"the number alone, -1, a whole one", a, -1, key, code(impl.ErrForm)},
		{"the number alone, one more than MaxTime", a, impl.MaxTime + 1, delta, code(impl.ErrForm)},
		{"the number alone, one more than MaxTime, a whole one", a, impl.MaxTime + 1, key, code(impl.ErrForm)},
		{"the least number", a, math.MinInt64, delta, code(impl.ErrForm)},
		{"the greatest number", a, math.MaxInt64, key, code(impl.ErrForm)},
		{"a number that is like the Base in its low bits", a, 1<<32 + 3, delta, code(impl.ErrForm)},
		{"the tree and the object", wrong, 3, bad, code(impl.ErrForm)},
		{"the tree and the number", wrong, -1, delta, code(impl.ErrForm)},
		{"the object and the number", a, impl.MaxTime + 1, bad, code(impl.ErrForm)},
		{"all three", wrong, -1, bad, code(impl.ErrForm)},
		{"the tree, and a Gen that is no more", wrong, 5, delta, code(impl.ErrForm)},
		{"the object, and a Gen that is no more", a, 5, bad, code(impl.ErrForm)},
		{"the tree, and another Base", wrong, 2, delta, code(impl.ErrForm)},
		{"a Gen that is the same, a whole one", a, 5, key, code(impl.ErrRange)},
		{"a Gen that is less, a whole one", a, 6, key, code(impl.ErrRange)},
		{"a Gen that is far less, a whole one", a, impl.MaxTime, key, code(impl.ErrRange)},
		{"a Gen that is the same", a, 5, delta, code(impl.ErrRange)},
		{"a Gen that is less", a, 6, delta, code(impl.ErrRange)},
		{"a Gen that is far less", a, impl.MaxTime, delta, code(impl.ErrRange)},
		{"a Gen that is the same, of what comes by it", b, 5, delta, code(impl.ErrRange)},
		{"a Gen that is the same, another tree's Was", other, 5, delta, code(impl.ErrRange)},
		{"a Gen that is the same, Ops that tell a code", a, 3, old, code(impl.ErrRange)},
		{"a Gen that is less, Ops that tell a code", a, 4, old, code(impl.ErrRange)},
		{"a Gen that is the same, another Is", a, 5, sum, code(impl.ErrRange)},
		{"a Base that is one more", a, 2, delta, code(impl.ErrState)},
		{"a Base that is one less", a, 4, delta, code(impl.ErrState)},
		{"a Base that is more than 0", a, 0, delta, code(impl.ErrState)},
		{"a Base of 0, one less", a, 1, deltaObject(5, 0, a, b), code(impl.ErrState)},
		{"another tree's Was", other, 3, delta, code(impl.ErrState)},
		{"another tree's Was, what comes by it", b, 3, delta, code(impl.ErrState)},
		{"another tree's Was, no files", impl.Tree{}, 3, delta, code(impl.ErrState)},
		{"another Base, and another tree's Was", other, 4, delta, code(impl.ErrState)},
		{"another Base, and Ops that tell a code", a, 3, none(4, a), code(impl.ErrState)},
		{"another tree's Was, and Ops that tell a code", a, 3, none(3, other), code(impl.ErrState)},
		{"another Base, and another Is", a, 4, sum, code(impl.ErrState)},
		{"another tree's Was, and another Is", other, 3, sum, code(impl.ErrState)},
		{"no Ops, and another tree's Was", other, 3, opsObject(5, 3, a, other), code(impl.ErrState)},
		{"Ops that tell ErrNone", a, 3, none(3, a), code(impl.ErrNone)},
		{"Ops that tell ErrNone, and an Is of the same tree", a, 3, opsObject(5, 3, a, a, ops[impl.ErrNone]), code(impl.ErrNone)},
		{"Ops of which the second tells a code", a, 3, opsObject(5, 3, a, b, ops[impl.OK], ops[impl.ErrFull]), code(impl.ErrFull)},
		{"Ops of which two tell a code", a, 3, opsObject(5, 3, a, b, ops[impl.ErrRange], ops[impl.ErrNone]), code(impl.ErrRange)},
		{"another Is", a, 3, sum, code(impl.ErrSum)},
		{"another Is, no Ops", a, 3, opsObject(5, 3, a, b), code(impl.ErrSum)},
		{"another Is, the same tree's", a, 3, opsObject(5, 3, a, a, deltaByOther(a, b)...), code(impl.ErrSum)},
		{"an Is of no files", a, 3, opsObject(5, 3, a, impl.Tree{}, deltaByOther(a, b)...), code(impl.ErrSum)},
		{"no Ops, and the same tree's Is", a, 3, opsObject(5, 3, a, a), impl.TreeOut{Tree: a}},
	} {
		if got := objectDoByOther(c.tree, c.gen, c.o); !sameTreeOut(got, c.want) {
			t.Errorf("the test is of two minds of %s: the code %d", c.what, got.Code)
		}
		checkDo(t, c.what, c.tree, c.gen, c.o, c.want)
	}
}

// All choices of a tree, a number and an object, of which each may be wrong in several ways.
func TestObjectDoOfEachChoice(t *testing.T) {
	a, b := faultTree(), treeOf("b", "x")
	trees := []impl.Tree{a, b, {}, fullTree(), treeOf("b", "a"), treeOf("a", "a/b"), {Files: []impl.File{{}}}}
	objects := []impl.Object{{}, keyByOther(0, b), keyByOther(1, b), keyByOther(2, impl.Tree{}), keyByOther(impl.MaxTime, a), keyByOther(impl.MaxTime+1, a)}
	for _, tree := range trees {
		for _, op := range faultOps() {
			for _, numbers := range [][2]int64{{1, 0}, {2, 1}, {4, 1}, {3, 3}, {4, impl.NoBase}, {impl.MaxTime, impl.MaxTime - 1}, {impl.MaxTime + 1, impl.MaxTime}} {
				comes := deltaDoByOther(a, []impl.Op{op}).Tree
				objects = append(objects, opsObject(numbers[0], numbers[1], tree, comes, op), opsObject(numbers[0], numbers[1], tree, b, op))
			}
		}
	}
	codes := map[int64]int{}
	for _, tree := range trees {
		for _, gen := range []int64{math.MinInt64, -1, 0, 1, 2, 3, 4, impl.MaxTime - 1, impl.MaxTime, impl.MaxTime + 1, math.MaxInt64} {
			for i, o := range objects {
				want := objectDoByOther(tree, gen, o)
				checkDo(t, fmt.Sprintf("the object %d, %+v, of %d and %+v", i, o, gen, tree), tree, gen, o, want)
				codes[want.Code]++
			}
		}
	}
	for _, code := range []int64{impl.OK, impl.ErrForm, impl.ErrRange, impl.ErrState, impl.ErrNone, impl.ErrFull, impl.ErrSum} {
		if codes[code] < 3 {
			t.Errorf("only %d times the code %d", codes[code], code)
		}
	}
}

// someObjects are a whole one and one of ops, of many files and of none.
func someObjects() []impl.Object {
	a, b := deltaPair()
	return []impl.Object{keyByOther(300, fullTree()), keyByOther(1, impl.Tree{}), deltaObject(300, 299, a, b), deltaObject(1, 0, impl.Tree{}, impl.Tree{}),
		deltaObject(impl.MaxTime, 64, b, a)}
}

// checkRefused asks whether a text is no object, and why not.
func checkRefused(t *testing.T, what string, text string, code int64) {
	t.Helper()
	if got := impl.ObjectRead(text); got != (impl.ObjectOut{Code: code}) {
		t.Fatalf("ObjectRead of %s: %+v, not the code %d", what, got, code)
	}
}

// What is turned, or cut, is refused by its seal, whatever stands there; a text that is too long ahead of that.
func TestObjectReadOfSeals(t *testing.T) {
	for i, o := range someObjects() {
		text := impl.ObjectBytes(o)
		for at := range len(text) {
			for _, by := range []byte{1, 2, 3, 64, 128, 255} {
				checkRefused(t, fmt.Sprintf("the object %d, turned at %d by %d", i, at, by), turned(text, at, by), impl.ErrSum)
			}
		}
		for most := range len(text) {
			code := int64(impl.ErrSum)
			if most < 4 {
				code = impl.ErrShort
			}
			checkRefused(t, fmt.Sprintf("the object %d, its first %d bytes", i, most), text[:most], code)
			checkRefused(t, fmt.Sprintf("the object %d, a byte more at %d", i, most), text[:most]+"\x01"+text[most:], impl.ErrSum)
		}
		checkRefused(t, fmt.Sprintf("the object %d, not sealed", i), text[:len(text)-4], impl.ErrSum)
		checkRefused(t, fmt.Sprintf("the object %d twice", i), text+text, impl.ErrSum)
		checkRefused(t, fmt.Sprintf("the object %d, and bytes up to MaxBytes", i), text+textOf(impl.MaxBytes-len(text)), impl.ErrSum)
		checkRefused(t, fmt.Sprintf("the object %d, and bytes up to one more than MaxBytes", i), text+textOf(impl.MaxBytes+1-len(text)), impl.ErrSize)
		left := text[:len(text)-4] + textOf(impl.MaxBytes-len(text))
		checkRefused(t, fmt.Sprintf("the object %d, and bytes up to MaxBytes, sealed", i), sealedByOther(left), impl.ErrSyntax)
		checkRefused(t, fmt.Sprintf("the object %d, and bytes up to one more than MaxBytes, sealed", i), sealedByOther(left+"\x00"), impl.ErrSize)
	}
	checkRefused(t, "nothing", "", impl.ErrShort)
	checkRefused(t, "three bytes", "\x00\x00\x00", impl.ErrShort)
	checkRefused(t, "four bytes", "\x01\x00\x00\x00", impl.ErrSum)
	checkRefused(t, "the seal of nothing", sealedByOther(""), impl.ErrSyntax)
	checkRefused(t, "MaxBytes bytes", textOf(impl.MaxBytes), impl.ErrSum)
	checkRefused(t, "one more than MaxBytes bytes", textOf(impl.MaxBytes+1), impl.ErrSize)
	checkRefused(t, "MaxBytes bytes, sealed", sealedByOther(textOf(impl.MaxBytes-4)), impl.ErrSyntax)
	checkRefused(t, "one more than MaxBytes bytes, sealed", sealedByOther(textOf(impl.MaxBytes-3)), impl.ErrSize)
	checkRefused(t, "far more than MaxBytes bytes", textOf(3*impl.MaxBytes), impl.ErrSize)
}

// Under a right seal: what lacks some bytes, has some left, or says a number in more bytes than are needed.
func TestObjectReadOfBytes(t *testing.T) {
	for i, o := range someObjects() {
		inner := objectBytesByOther(o)
		inner = inner[:len(inner)-4]
		for most := range len(inner) {
			checkRefused(t, fmt.Sprintf("the object %d, its first %d bytes, sealed", i, most), sealedByOther(inner[:most]), impl.ErrSyntax)
			checkRefused(t, fmt.Sprintf("the object %d, its first %d bytes and bytes 0, sealed", i, most), sealedByOther(inner[:most]+strings.Repeat("\x00", len(inner))), impl.ErrSyntax)
		}
		// A part of the Gen's bytes may be those of a lesser one.
		for from := len(varints(o.Gen)); from < len(inner); from++ {
			checkRefused(t, fmt.Sprintf("the object %d, its bytes from %d on, sealed", i, from), sealedByOther(inner[from:]), impl.ErrSyntax)
		}
		for _, left := range []string{"\x00", "\x80", "\xff", "\x02\x00", inner} {
			checkRefused(t, fmt.Sprintf("the object %d, %d bytes left, sealed", i, len(left)), sealedByOther(inner+left), impl.ErrSyntax)
		}
		checkRefused(t, fmt.Sprintf("the object %d behind a byte 0, sealed", i), sealedByOther("\x00"+inner), impl.ErrSyntax)
		checkRefused(t, fmt.Sprintf("the object %d, sealed twice", i), sealedByOther(objectBytesByOther(o)), impl.ErrSyntax)
		fields := []string{varints(o.Gen), varints(o.Base), varints(int64(len(o.Was))), o.Was, varints(int64(len(o.Is))), o.Is, varints(int64(len(o.Body))), o.Body}
		for at, n := range map[int]int64{0: o.Gen, 1: o.Base, 2: int64(len(o.Was)), 4: int64(len(o.Is)), 6: int64(len(o.Body))} {
			for _, wrong := range []string{longNum(n), "", "\x80", "\x80\x00", strings.Repeat("\x80", 9) + "\x02", strings.Repeat("\x80", 10), varints(n + 1<<32), varints(math.MinInt64), varints(math.MaxInt64)} {
				other := slices.Clone(fields)
				other[at] = wrong
				checkRefused(t, fmt.Sprintf("the object %d, its number %d as %x, sealed", i, at, wrong), sealedByOther(strings.Join(other, "")), impl.ErrSyntax)
			}
		}
		for _, at := range []int{2, 4, 6} {
			for _, n := range []int64{-1, int64(len(fields[at+1])) - 1, int64(len(fields[at+1])) + 1, impl.MaxBytes, impl.MaxBytes + 1} {
				other := slices.Clone(fields)
				other[at] = varints(n)
				checkRefused(t, fmt.Sprintf("the object %d, its length %d as %d, sealed", i, at, n), sealedByOther(strings.Join(other, "")), impl.ErrSyntax)
			}
		}
	}
}

// Each byte of what is sealed turned, and sealed again: what is then read is right and has these bytes, or is refused.
func TestTurnedAndSealedObject(t *testing.T) {
	read, refused := 0, 0
	for i, o := range someObjects() {
		inner := objectBytesByOther(o)
		inner = inner[:len(inner)-4]
		for at := range len(inner) {
			for _, by := range []byte{1, 2, 3, 4, 8, 128, 255} {
				other := sealedByOther(turned(inner, at, by))
				got := impl.ObjectRead(other)
				if got == (impl.ObjectOut{Code: impl.ErrSyntax}) {
					refused++
					continue
				}
				read++
				if got.Code != impl.OK || !objectByOther(got.Object) || objectBytesByOther(got.Object) != other || got.Object == o {
					t.Fatalf("the object %d, turned at %d by %d, and sealed: %+v", i, at, by, got)
				}
			}
		}
	}
	if read == 0 || refused == 0 {
		t.Errorf("%d objects that are turned and sealed are read, and %d refused", read, refused)
	}
}

// What is told of many trees, one after the other: done in order each makes the next tree, and done at any other place none.
func TestManyObjects(t *testing.T) {
	paths := []string{"a", "a/b", "b", "c", "c/d", "d", "e", "f", "g"}
	seed := uint64(1)
	next := func(n int) int {
		seed = seed*6364136223846793005 + 1442695040888963407
		return int(seed>>33) % n
	}
	trees, objects := []impl.Tree{{}}, []impl.Object{{}}
	for len(trees) < 60 {
		ahead, gen := trees[len(trees)-1], int64(len(trees))
		tree := ahead
		for range next(3) {
			path := paths[next(len(paths))]
			put := treePutByOther(tree, impl.File{Path: path, Mode: int64(next(512)), Data: textOf(next(81))})
			if next(3) == 0 {
				put = treeDropByOther(tree, path)
			}
			if put.Code == impl.OK {
				tree = put.Tree
			}
		}
		checkObjects(t, gen, gen-1, ahead, tree)
		objects = append(objects, impl.ObjectDelta(gen, gen-1, ahead, tree).Object)
		trees = append(trees, tree)
	}
	for gen, tree := range trees {
		for i := 1; i < len(objects); i++ {
			want := impl.TreeOut{Code: impl.ErrState}
			if i <= gen {
				want.Code = impl.ErrRange
			} else if i == gen+1 {
				want = impl.TreeOut{Tree: trees[i]}
			}
			checkDo(t, fmt.Sprintf("the object %d of the tree %d", i, gen), tree, int64(gen), objects[i], want)
		}
	}
}

func textsOfObject(o impl.Object) []string {
	return []string{o.Was, o.Is, o.Body}
}

// No answer lies where an argument or another answer does, and no two texts of one answer lie in the same memory.
func TestObjectsShareNothing(t *testing.T) {
	a, b := deltaPair()
	trees := append(textsOfTree(a), textsOfTree(b)...)
	one, two := impl.ObjectDelta(5, 4, a, b).Object, impl.ObjectDelta(5, 4, a, b).Object
	same, key, again := impl.ObjectDelta(5, 4, a, a).Object, impl.ObjectKey(5, b).Object, impl.ObjectKey(5, b).Object
	checkUnshared(t, "told", trees, textsOfObject(one), textsOfObject(two), textsOfObject(same), textsOfObject(key), textsOfObject(again))
	for _, o := range []impl.Object{one, same, key} {
		checkUnshared(t, "the texts of one", []string{o.Was}, []string{o.Is}, []string{o.Body})
		text := impl.ObjectBytes(o)
		read, second := impl.ObjectRead(text).Object, impl.ObjectRead(text).Object
		checkUnshared(t, "read", textsOfObject(o), []string{text}, []string{impl.ObjectBytes(o)}, textsOfObject(read), textsOfObject(second))
		done, other := impl.ObjectDo(a, 4, o).Tree, impl.ObjectDo(a, 4, o).Tree
		checkUnshared(t, "done", trees, textsOfObject(o), textsOfTree(done), textsOfTree(other))
		if len(done.Files) == 0 {
			t.Errorf("nothing comes by %+v", o)
		}
	}
}

// What is handed in is not changed, not even behind the end of its lists, and what is handed back is not kept.
func TestObjectsHandedInAreNotChanged(t *testing.T) {
	a, b := deltaPair()
	files, others := append(slices.Clone(a.Files), impl.File{Path: "spare"}), append(slices.Clone(b.Files), impl.File{Path: "spare"})
	keptFiles, keptOthers := slices.Clone(files), slices.Clone(others)
	from, to := impl.Tree{Files: files[:len(a.Files)]}, impl.Tree{Files: others[:len(b.Files)]}
	objects := []impl.Object{impl.ObjectKey(5, to).Object, impl.ObjectDelta(5, 4, from, to).Object, impl.ObjectDelta(5, 4, from, from).Object, impl.ObjectDelta(5, 4, to, from).Object}
	for range 2 {
		for _, o := range objects {
			for _, gen := range []int64{-1, 3, 4, 5} {
				scribbleTree(impl.ObjectDo(from, gen, o).Tree)
				scribbleTree(impl.ObjectDo(to, gen, o).Tree)
			}
			text := impl.ObjectBytes(o)
			if got := impl.ObjectRead(text); got != (impl.ObjectOut{Object: o}) || !impl.ObjectRight(o) {
				t.Fatalf("%+v comes back as %+v", o, got)
			}
		}
		checkObjects(t, 5, 4, from, to, to)
		checkObjects(t, 5, 4, to, from, from)
		if !slices.Equal(files, keptFiles) || !slices.Equal(others, keptOthers) {
			t.Fatal("a tree that was handed in has changed")
		}
	}
}
