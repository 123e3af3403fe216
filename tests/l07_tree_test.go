package tests

import (
	"encoding/binary"
	"fmt"
	"maps"
	"math"
	"regexp"
	"slices"
	"strings"
	"testing"

	"loop.example/g00626/impl"
)

var partForm = regexp.MustCompile(`^[a-z0-9.-]+$`)

// pathByOther tells by other means whether a text is a path.
func pathByOther(text string) bool {
	parts := strings.Split(text, "/")
	for _, part := range parts {
		if !partForm.MatchString(part) || part == "." || part == ".." {
			return false
		}
	}
	return len(text) <= 20 && len(parts) <= 3
}

// foldersOf are all that stands ahead of a / of a path.
func foldersOf(path string) []string {
	var l []string
	for i := range len(path) {
		if path[i] == '/' {
			l = append(l, path[:i])
		}
	}
	return l
}

// clashByOther tells whether one of two paths is what stands ahead of a / of the other one.
func clashByOther(a string, b string) bool {
	return slices.Contains(foldersOf(a), b) || slices.Contains(foldersOf(b), a)
}

func fileByOther(f impl.File) bool {
	return pathByOther(f.Path) && f.Mode >= 0 && f.Mode <= 511 && len(f.Data) <= 80
}

// treeByOther tells by other means whether a tree is right.
func treeByOther(t impl.Tree) bool {
	paths := map[string]int{}
	for _, f := range t.Files {
		paths[f.Path]++
	}
	for i, f := range t.Files {
		if !fileByOther(f) || i > 0 && strings.Compare(t.Files[i-1].Path, f.Path) >= 0 {
			return false
		}
		for _, folder := range foldersOf(f.Path) {
			if paths[folder] > 0 {
				return false
			}
		}
	}
	return len(t.Files) <= 6
}

// treeBytesByOther are the bytes of a tree, right or not, made by other means.
func treeBytesByOther(t impl.Tree) string {
	text := string(binary.AppendVarint(nil, int64(len(t.Files))))
	for _, f := range t.Files {
		text += textByOther(f.Path) + string(binary.AppendVarint(nil, f.Mode)) + textByOther(f.Data)
	}
	return text
}

// treePutByOther and treeDropByOther tell by other means what comes of a right tree.
func treePutByOther(t impl.Tree, f impl.File) impl.TreeOut {
	files := map[string]impl.File{}
	for _, old := range t.Files {
		if clashByOther(old.Path, f.Path) {
			return impl.TreeOut{Code: impl.ErrState}
		}
		files[old.Path] = old
	}
	if files[f.Path] = f; len(files) > 6 {
		return impl.TreeOut{Code: impl.ErrFull}
	}
	return impl.TreeOut{Tree: treeOfMap(files)}
}

func treeDropByOther(t impl.Tree, path string) impl.TreeOut {
	files := map[string]impl.File{}
	for _, old := range t.Files {
		files[old.Path] = old
	}
	if _, there := files[path]; !there {
		return impl.TreeOut{Code: impl.ErrNone}
	}
	delete(files, path)
	return impl.TreeOut{Tree: treeOfMap(files)}
}

func treeOfMap(files map[string]impl.File) impl.Tree {
	var t impl.Tree
	for _, path := range slices.Sorted(maps.Keys(files)) {
		t.Files = append(t.Files, files[path])
	}
	return t
}

// sameTreeOut compares what is told; an empty list and none are the same.
func sameTreeOut(a impl.TreeOut, b impl.TreeOut) bool {
	return slices.Equal(a.Tree.Files, b.Tree.Files) && a.Code == b.Code
}

func treeCopy(t impl.Tree) impl.Tree {
	return impl.Tree{Files: slices.Clone(t.Files)}
}

// someFile is a file whose Mode and Data hang on its path.
func someFile(path string) impl.File {
	n := int64(0)
	for i := range len(path) {
		n = n*7 + int64(path[i])
	}
	return impl.File{Path: path, Mode: n % 512, Data: textOf(int(n%79) + 1)}
}

// treeOf is a tree of such files, in this order.
func treeOf(paths ...string) impl.Tree {
	var t impl.Tree
	for _, path := range paths {
		t.Files = append(t.Files, someFile(path))
	}
	return t
}

// treesOf are trees of all choices of up to so many of rising paths, right or not.
func treesOf(paths []string, most int) []impl.Tree {
	var l []impl.Tree
	for bits := range 1 << len(paths) {
		var some []string
		for i, path := range paths {
			if bits>>i&1 == 1 {
				some = append(some, path)
			}
		}
		if len(some) <= most {
			l = append(l, treeOf(some...))
		}
	}
	return l
}

// fullTree has as many files as may be, with room for others ahead of, between and behind them.
func fullTree() impl.Tree {
	return treeOf("b", "d/e", "d/g/h", "f.x", "h-1", "j")
}

// restPaths are rising paths at which nothing stands in the full tree.
func restPaths() []string {
	return []string{"-", "a", "b-", "b.", "b0", "c", "d-", "d/a", "d/f", "d/g/a", "d/g/i", "d/g0", "d0", "e", "g", "i", "k", "z/z/z"}
}

func TestTreeConstants(t *testing.T) {
	if impl.MaxFiles != 6 || impl.MaxPath != 20 || impl.MaxFile != 80 {
		t.Error("a limit of trees is another one")
	}
}

func TestPathsOfEachEdge(t *testing.T) {
	twenty := "abcdefghijklmnopqrst"
	for _, c := range []struct {
		path string
		want bool
	}{
		{"", false}, {"a", true}, {"z", true}, {"0", true}, {"9", true}, {"-", true}, {"--", true}, {"-a", true}, {"a-", true},
		{twenty[:19], true}, {twenty, true}, {twenty + "u", false}, {strings.Repeat("-", 20), true}, {strings.Repeat(".", 20), true},
		{strings.Repeat("a", 21), false}, {strings.Repeat("a/", 9) + "bc", false}, {"abcdef/abcdef/abcdef", true}, {"abcdef/abcdef/abcdefg", false},
		{"a/b", true}, {"a/b/c", true}, {"a/b/c/d", false}, {"a/b/c/d/e", false}, {"a/a/a", true}, {"a/a/a/a", false},
		{"/", false}, {"//", false}, {"///", false}, {"/a", false}, {"a/", false}, {"a//b", false}, {"/a/b", false}, {"a/b/", false},
		{"a/b/c/", false}, {"/a/b/c", false}, {"a//", false}, {"//a", false},
		{".", false}, {"..", false}, {"...", true}, {"....", true}, {".a", true}, {"..a", true}, {"a.", true}, {"a..", true}, {"a.b", true}, {"a..b", true},
		{"./a", false}, {"../a", false}, {".../a", true}, {".a/b", true}, {"a/.", false}, {"a/..", false}, {"a/...", true}, {"a/.b", true},
		{"a/./b", false}, {"a/../b", false}, {"a/.../b", true}, {"a/b/.", false}, {"a/b/..", false}, {"a/b/...", true}, {"./.", false}, {"../..", false},
		{"-/-/-", true}, {"a.b/c-1", true}, {".-", true}, {"-.", true}, {"./", false}, {"/.", false},
		{"A", false}, {"aB", false}, {"a_b", false}, {"a b", false}, {" a", false}, {"a ", false}, {"a\n", false}, {"\na", false}, {"a\x00", false}, {"a\\b", false},
	} {
		if got := impl.PathRight(c.path); got != c.want {
			t.Errorf("PathRight of %q is %v", c.path, got)
		}
	}
}

func TestPathsOfEachByte(t *testing.T) {
	for n := range 256 {
		b := string([]byte{byte(n)})
		in := strings.Contains("abcdefghijklmnopqrstuvwxyz0123456789-.", b)
		alone := in && b != "."
		for text, want := range map[string]bool{b: alone, "x" + b: in, b + "x": in, "x" + b + "x": in || b == "/", "x/" + b: alone, b + "/x": alone,
			"x/y/z" + b: in, "x/" + b + "/z": alone, b + b: alone, strings.Repeat("x", 19) + b: in, strings.Repeat("x", 20) + b: false} {
			if got := impl.PathRight(text); got != want {
				t.Errorf("PathRight of %q is %v", text, got)
			}
		}
	}
}

// Runes that are what may stand in a path, if only some of their bits are looked at, and bytes that are none.
func TestPathsOfOtherRunes(t *testing.T) {
	for _, r := range []rune{0x80, 0xad, 0xe9, 0x161, 0x12d, 0x12e, 0x12f, 0x130, 0x2010, 0x2024, 0x2044, 0x212a, 0x6161, 0xfb61, 0xff0d, 0xff0e, 0xff0f, 0xff41,
		0xfffd, 0x10061, 0x1d41a, 0x1f361, 0x10ffff} {
		for _, text := range []string{string(r), "a" + string(r), string(r) + "a", "a/" + string(r) + "/b", "a" + string(r) + "b"} {
			if impl.PathRight(text) {
				t.Errorf("PathRight of %q is true", text)
			}
		}
	}
	for _, text := range []string{"\xff", "\x80", "a\xff", "\xc3", "a\xc3b", "\xed\xa0\x80", "\xc0\xaf", "a\xc0\xafb", "\xe1", "a/\xe1/b", "a\xc1\xa1"} {
		if impl.PathRight(text) {
			t.Errorf("PathRight of %q is true", text)
		}
	}
}

func TestPathsOfFewBytes(t *testing.T) {
	texts := []string{""}
	right := 0
	for range 7 {
		var longer []string
		for _, text := range texts {
			for _, b := range []string{"a", "-", ".", "/", "A"} {
				longer = append(longer, text+b)
			}
		}
		for _, text := range longer {
			got := impl.PathRight(text)
			if got != pathByOther(text) {
				t.Fatalf("PathRight of %q is %v", text, got)
			}
			if got {
				right++
			}
		}
		texts = longer
	}
	if right < 1000 {
		t.Errorf("only %d paths of few bytes are right", right)
	}
}

func TestPathsOfEachLength(t *testing.T) {
	for n := range 30 {
		for _, ahead := range []string{"", "a/", "a/b/", "aa.a/", ".-/abc/"} {
			text := ahead + strings.Repeat("p", n)
			if got, want := impl.PathRight(text), n > 0 && len(text) <= 20; got != want {
				t.Errorf("PathRight of %q is %v", text, got)
			}
		}
	}
	for _, n := range []int{255, 256, 257, impl.MaxBytes, impl.MaxBytes + 1, 3 * impl.MaxBytes} {
		if impl.PathRight(strings.Repeat("a", n)) || impl.PathRight("a/"+strings.Repeat("a", n)) {
			t.Errorf("a path of %d bytes is right", n)
		}
	}
}

type treeCase struct {
	what  string
	tree  impl.Tree
	right bool
}

// fileCases are trees of one file, or of three of which the one is changed, at the edges of what it may be.
func fileCases() []treeCase {
	var l []treeCase
	add := func(what string, f impl.File, right bool) {
		l = append(l, treeCase{what, impl.Tree{Files: []impl.File{f}}, right})
		l = append(l, treeCase{what + ", the first of three", impl.Tree{Files: []impl.File{f, someFile("y"), someFile("z")}}, right && f.Path < "y"})
		l = append(l, treeCase{what + ", the last of three", impl.Tree{Files: []impl.File{someFile("-"), someFile("-.a"), f}}, right && f.Path > "-.a"})
	}
	for _, n := range []int64{math.MinInt64, -1 << 32, -512, -1, 0, 1, 420, 510, 511, 512, 513, 1 << 32, 1<<32 + 1, math.MaxInt64} {
		add(fmt.Sprintf("a Mode of %d", n), impl.File{Path: "a", Mode: n, Data: "data"}, n >= 0 && n <= 511)
	}
	for _, n := range []int{0, 1, 79, 80, 81, 256, 336, impl.MaxBytes, impl.MaxBytes + 1, 3 * impl.MaxBytes} {
		add(fmt.Sprintf("%d bytes of Data", n), impl.File{Path: "a", Mode: 1, Data: textOf(n)}, n <= 80)
	}
	for _, path := range []string{"", "a", "/", "a/b/c", "a/b/c/d", "a//b", "/a", "a/", ".", "..", "...", "a/..", "A", "a_", "\xe9", "a\x00",
		strings.Repeat("p", 20), strings.Repeat("p", 21), strings.Repeat("p", impl.MaxBytes), strings.Repeat("p", impl.MaxBytes+1)} {
		add(fmt.Sprintf("the path %.30q of %d bytes", path, len(path)), impl.File{Path: path, Mode: 511, Data: "x"}, pathByOther(path))
	}
	add("nothing", impl.File{}, false)
	return l
}

// listCases are trees of right files, at the edges of how they may stand together.
func listCases() []treeCase {
	long := make([]impl.File, impl.MaxList+1)
	for i := range long {
		long[i] = someFile(fmt.Sprintf("f%03d", i))
	}
	return []treeCase{
		{"no list", impl.Tree{}, true},
		{"an empty list", impl.Tree{Files: []impl.File{}}, true},
		{"one file", treeOf("a"), true},
		{"five files", treeOf("a", "b", "c", "d", "e"), true},
		{"MaxFiles files", treeOf("a", "b", "c", "d", "e", "f"), true},
		{"the full tree", fullTree(), true},
		{"a file more than MaxFiles", treeOf("a", "b", "c", "d", "e", "f", "g"), false},
		{"MaxList files", impl.Tree{Files: long[:impl.MaxList]}, false},
		{"a file more than MaxList", impl.Tree{Files: long}, false},
		{"MaxFiles files and one of no path", impl.Tree{Files: append(fullTree().Files, impl.File{})}, false},
		{"two of one path", treeOf("a", "a"), false},
		{"two of one path, of unlike Data", impl.Tree{Files: []impl.File{{Path: "a", Data: "1"}, {Path: "a", Data: "2"}}}, false},
		{"two of one path ahead of another one", treeOf("a", "a", "b"), false},
		{"two of one path behind another one", treeOf("a", "b", "b"), false},
		{"two that do not rise", treeOf("b", "a"), false},
		{"the last two of three do not rise", treeOf("a", "c", "b"), false},
		{"the first two of three do not rise", treeOf("b", "a", "c"), false},
		{"the first again at the end", treeOf("a", "b", "a"), false},
		{"the shorter one first", treeOf("a", "aa", "aaa"), true},
		{"the longer one first", treeOf("aa", "a"), false},
		{"- . / 0 a, rising", treeOf("b-", "b.", "b/x", "b0", "ba"), true},
		{". ahead of -", treeOf("b.", "b-"), false},
		{"/ ahead of .", treeOf("b/x", "b."), false},
		{"0 ahead of /", treeOf("b0", "b/x"), false},
		{"a folder of the next one", treeOf("a", "a/b"), false},
		{"a folder two parts up", treeOf("a", "a/b/c"), false},
		{"a folder of two parts", treeOf("a/b", "a/b/c"), false},
		{"a folder with a path between", treeOf("a", "a-b", "a/c"), false},
		{"a folder with two paths between", treeOf("a", "a-b", "a.b", "a/c"), false},
		{"a folder two parts up with a path between", treeOf("a", "a-b", "a/c/d"), false},
		{"a folder of two parts with a path between", treeOf("a/b", "a/b-c", "a/b/c"), false},
		{"a folder with four paths between", treeOf("a", "a-", "a--", "a.", "a..", "a/b"), false},
		{"a folder behind others", treeOf("0", "1", "a", "a-b", "a/c"), false},
		{"a folder behind which others stand", treeOf("a", "a/b", "b", "c"), false},
		{"files of one folder", treeOf("a/a", "a/b", "a/c/d", "a/c/e", "a/d/d", "a/e"), true},
		{"a path that another one begins with, without a /", treeOf("a", "a-b", "a.b", "a0/c", "ab/c"), true},
		{"a path that stands behind a / of another one", treeOf("b", "c/b", "d/b/e", "d/c/b"), true},
		{"a path of which the last part is another one", treeOf("a/b", "b"), true},
		{"a path that is the middle of another one", treeOf("a/b/c", "b"), true},
		{"a folder that is no path of a file", treeOf("a/b/c", "a/d"), true},
	}
}

func treeCases() []treeCase {
	return append(fileCases(), listCases()...)
}

func TestTreeRight(t *testing.T) {
	for _, c := range treeCases() {
		if got := impl.TreeRight(c.tree); got != c.right {
			t.Errorf("a tree of %s: TreeRight is %v", c.what, got)
		}
	}
}

// Of a tree that is not right nothing is told but ErrForm; its bytes are those of none.
func TestWrongTrees(t *testing.T) {
	for _, c := range treeCases() {
		if c.right {
			continue
		}
		form := impl.TreeOut{Code: impl.ErrForm}
		for _, path := range []string{"a", "b", "y", "zz", "..", ""} {
			if got := impl.FileOf(c.tree, path); got != (impl.File{}) {
				t.Errorf("a tree of %s: FileOf %q has the path %.30q", c.what, path, got.Path)
			}
			if got := impl.TreePut(c.tree, impl.File{Path: path}); !sameTreeOut(got, form) {
				t.Errorf("a tree of %s: TreePut of %q tells the code %d", c.what, path, got.Code)
			}
			if got := impl.TreeDrop(c.tree, path); !sameTreeOut(got, form) {
				t.Errorf("a tree of %s: TreeDrop of %q tells the code %d", c.what, path, got.Code)
			}
		}
		if impl.TreeBytes(c.tree) != "" || impl.TreeDigest(c.tree) != "" {
			t.Errorf("a tree of %s has bytes, or a digest", c.what)
		}
		if impl.SameTree(c.tree, c.tree) || impl.SameTree(c.tree, impl.Tree{}) || impl.SameTree(impl.Tree{}, c.tree) {
			t.Errorf("a tree of %s is the same as some", c.what)
		}
		text := treeBytesByOther(c.tree)
		want := impl.TreeOut{Code: impl.ErrSyntax}
		if len(text) > impl.MaxBytes {
			want.Code = impl.ErrSize
		}
		if got := impl.TreeRead(text); !sameTreeOut(got, want) {
			t.Errorf("a tree of %s is read, with the code %d, not %d", c.what, got.Code, want.Code)
		}
	}
}

// Promise 10: a tree comes back from its bytes, and its digest is that of these.
func checkRightTree(t *testing.T, what string, tree impl.Tree) {
	t.Helper()
	text := impl.TreeBytes(tree)
	if want := treeBytesByOther(tree); text != want {
		t.Errorf("a tree of %s has the bytes %q, not %q", what, text, want)
	}
	if got := impl.TreeRead(text); !sameTreeOut(got, impl.TreeOut{Tree: tree}) {
		t.Errorf("a tree of %s comes back as %+v", what, got)
	}
	if impl.TreeDigest(tree) != digestByOther(text) {
		t.Errorf("a tree of %s has another digest than its bytes", what)
	}
	if !impl.SameTree(tree, impl.TreeRead(text).Tree) || !impl.SameTree(tree, tree) {
		t.Errorf("a tree of %s is not the same as itself", what)
	}
	for _, f := range tree.Files {
		if impl.FileOf(tree, f.Path) != f {
			t.Errorf("a tree of %s does not have its file %q", what, f.Path)
		}
	}
}

func TestRightTrees(t *testing.T) {
	for _, c := range treeCases() {
		if c.right {
			checkRightTree(t, c.what, c.tree)
		}
	}
}

func TestKnownTreeBytes(t *testing.T) {
	for _, c := range []struct {
		tree impl.Tree
		want string
	}{
		{impl.Tree{}, "\x00"},
		{impl.Tree{Files: []impl.File{{Path: "a"}}}, "\x02\x02a\x00\x00"},
		{impl.Tree{Files: []impl.File{{Path: "a/b", Mode: 420, Data: "one"}}}, "\x02\x06a/b\xc8\x06\x06one"},
		{impl.Tree{Files: []impl.File{{Path: "a", Mode: 511}, {Path: "b", Data: "\x00\xff"}}}, "\x04\x02a\xfe\x07\x00\x02b\x00\x04\x00\xff"},
	} {
		if got := impl.TreeBytes(c.tree); got != c.want {
			t.Errorf("%+v has the bytes %x, not %x", c.tree, got, c.want)
		}
		if got := impl.TreeRead(c.want); !sameTreeOut(got, impl.TreeOut{Tree: c.tree}) {
			t.Errorf("%x is read as %+v", c.want, got)
		}
	}
	if got := fmt.Sprintf("%x", impl.TreeDigest(impl.Tree{})); got != "6e340b9cffb37a989ca544e6bb780a2c78901d3fb33738768511a30617afa01d" {
		t.Errorf("the empty tree has the digest %s", got)
	}
}

// All choices of paths that lie close to each other, in order.
func TestTreesOfClosePaths(t *testing.T) {
	paths := []string{"a", "a-b", "a-b/c", "a.b", "a/b", "a/b-c", "a/b/c", "a/b0", "a0", "aa", "b", "b/a"}
	right := 0
	for _, tree := range treesOf(paths, 7) {
		got := impl.TreeRight(tree)
		if got != treeByOther(tree) {
			t.Fatalf("TreeRight of %+v is %v", tree, got)
		}
		if got {
			right++
			checkRightTree(t, fmt.Sprintf("%+v", tree), tree)
		}
	}
	if right < 100 {
		t.Errorf("only %d trees are right", right)
	}
	for _, a := range paths {
		for _, b := range paths {
			for _, c := range paths {
				tree := treeOf(a, b, c)
				if got := impl.TreeRight(tree); got != treeByOther(tree) {
					t.Fatalf("TreeRight of %q, %q and %q is %v", a, b, c, got)
				}
			}
		}
	}
}

// Promise 10: what is put is there, all else too, and goes again, wherever it stands.
func TestPutAndDropped(t *testing.T) {
	places := map[string]bool{}
	for many := range impl.MaxFiles + 1 {
		for _, tree := range treesOf([]string{"b", "d/e", "d/g/h", "f.x", "h-1", "j"}, many) {
			for _, path := range restPaths() {
				f := impl.File{Path: path, Mode: int64(len(tree.Files)), Data: "new"}
				put, want := impl.TreePut(tree, f), treePutByOther(tree, f)
				if !sameTreeOut(put, want) {
					t.Fatalf("%q put into %+v: %+v", path, tree, put)
				}
				if want.Code != impl.OK {
					continue
				}
				if !impl.TreeRight(put.Tree) || impl.FileOf(put.Tree, path) != f {
					t.Fatalf("%q put into %+v is not there, or not right", path, tree)
				}
				for _, old := range tree.Files {
					if impl.FileOf(put.Tree, old.Path) != old {
						t.Fatalf("%q put into %+v: %q is another one", path, tree, old.Path)
					}
				}
				dropped := impl.TreeDrop(put.Tree, path)
				if !sameTreeOut(dropped, impl.TreeOut{Tree: tree}) || !impl.SameTree(dropped.Tree, tree) || impl.TreeDigest(dropped.Tree) != impl.TreeDigest(tree) {
					t.Fatalf("%q dropped again leaves %+v of %+v", path, dropped, tree)
				}
				if impl.FileOf(dropped.Tree, path) != (impl.File{}) || impl.TreeDrop(dropped.Tree, path).Code != impl.ErrNone {
					t.Fatalf("%q dropped from %+v is there", path, put.Tree)
				}
				at := slices.IndexFunc(put.Tree.Files, func(g impl.File) bool { return g.Path == path })
				places[fmt.Sprintf("%d of %d", at, len(put.Tree.Files))] = true
			}
		}
	}
	if want := 1 + 2 + 3 + 4 + 5 + 6; len(places) != want {
		t.Errorf("files are put at %d places, not at %d", len(places), want)
	}
}

// Promise 10: what is put again has its new Mode and Data; of whatever tree, the full one too.
func TestPutAgain(t *testing.T) {
	for _, tree := range treesOf([]string{"b", "d/e", "d/g/h", "f.x", "h-1", "j"}, impl.MaxFiles) {
		for i, old := range tree.Files {
			for _, f := range []impl.File{old, {Path: old.Path}, {Path: old.Path, Mode: 511, Data: old.Data}, {Path: old.Path, Mode: old.Mode, Data: textOf(80)}} {
				want := treeCopy(tree)
				want.Files[i] = f
				got := impl.TreePut(tree, f)
				if !sameTreeOut(got, impl.TreeOut{Tree: want}) {
					t.Fatalf("%+v put again into %+v: %+v", f, tree, got)
				}
				if same := impl.SameTree(got.Tree, tree); same != (f == old) {
					t.Fatalf("%+v put again into %+v: SameTree is %v", f, tree, same)
				}
			}
			want := impl.Tree{Files: slices.Delete(slices.Clone(tree.Files), i, i+1)}
			if got := impl.TreeDrop(tree, old.Path); !sameTreeOut(got, impl.TreeOut{Tree: want}) {
				t.Fatalf("%q dropped from %+v: %+v", old.Path, tree, got)
			}
		}
	}
}

// Promise 10, over many puts and drops, one after the other.
func TestManyPutsAndDrops(t *testing.T) {
	paths := append(restPaths(), "b", "d/e", "d/g/h", "f.x", "d", "d/g", "a/b", "a/b/c", "d/e/f", "z", "z/z")
	tree, seed := impl.Tree{}, uint64(1)
	next := func(n int) int {
		seed = seed*6364136223846793005 + 1442695040888963407
		return int(seed>>33) % n
	}
	digests, codes := map[string]string{}, map[int64]int{}
	for step := range 20000 {
		path := paths[next(len(paths))]
		var got, want impl.TreeOut
		if next(3) > 0 {
			f := impl.File{Path: path, Mode: int64(next(512)), Data: textOf(next(81))}
			got, want = impl.TreePut(tree, f), treePutByOther(tree, f)
		} else {
			got, want = impl.TreeDrop(tree, path), treeDropByOther(tree, path)
		}
		if !sameTreeOut(got, want) {
			t.Fatalf("step %d, %q: %+v, not %+v", step, path, got, want)
		}
		codes[got.Code]++
		if got.Code != impl.OK {
			continue
		}
		tree = got.Tree
		text, digest := impl.TreeBytes(tree), impl.TreeDigest(tree)
		if !impl.TreeRight(tree) || !treeByOther(tree) || !sameTreeOut(impl.TreeRead(text), impl.TreeOut{Tree: tree}) {
			t.Fatalf("step %d: %+v is not right, or does not come back", step, tree)
		}
		if other, there := digests[digest]; there && other != text {
			t.Fatalf("step %d: two trees have one digest", step)
		}
		digests[digest] = text
	}
	for _, code := range []int64{impl.OK, impl.ErrState, impl.ErrFull, impl.ErrNone} {
		if codes[code] < 100 {
			t.Errorf("the code %d was told %d times", code, codes[code])
		}
	}
}

// Each path beside, above and under each one that is there.
func TestPutOfClosePaths(t *testing.T) {
	paths := []string{"a", "a-b", "a-b/c", "a.b", "a/b", "a/b-c", "a/b/c", "a/b0", "a0", "aa", "b", "b/a"}
	for _, tree := range treesOf(paths, impl.MaxFiles) {
		if !treeByOther(tree) {
			continue
		}
		for _, path := range paths {
			f := impl.File{Path: path, Mode: 7, Data: "put"}
			if got, want := impl.TreePut(tree, f), treePutByOther(tree, f); !sameTreeOut(got, want) {
				t.Fatalf("%q put into %+v: %+v, not %+v", path, tree, got, want)
			}
			if got, want := impl.TreeDrop(tree, path), treeDropByOther(tree, path); !sameTreeOut(got, want) {
				t.Fatalf("%q dropped from %+v: %+v, not %+v", path, tree, got, want)
			}
		}
	}
}

func TestFileOf(t *testing.T) {
	tree := impl.Tree{Files: append(fullTree().Files[:5:5], impl.File{Path: "z"})}
	for _, path := range []string{"", "a", "d", "d/", "d/g", "d/e/f", "/b", "b/", "bb", "B", "f", "f.", "zz", "y", "..", "\xff",
		strings.Repeat("b", impl.MaxBytes), strings.Repeat("b", impl.MaxBytes+1)} {
		if got := impl.FileOf(tree, path); got != (impl.File{}) {
			t.Errorf("FileOf %.30q is %+v", path, got)
		}
		if got := impl.FileOf(impl.Tree{}, path); got != (impl.File{}) {
			t.Errorf("FileOf %.30q of no files is %+v", path, got)
		}
	}
	for _, f := range tree.Files {
		if got := impl.FileOf(tree, f.Path); got != f {
			t.Errorf("FileOf %q is %+v", f.Path, got)
		}
	}
}

// wrongFiles are files that may not be put.
func wrongFiles() []impl.File {
	l := []impl.File{{}, {Path: "a", Mode: -1}, {Path: "a", Mode: 512}, {Path: "a", Mode: math.MinInt64}, {Path: "a", Mode: math.MaxInt64}, {Path: "a", Mode: 1 << 32},
		{Path: "a", Data: textOf(81)}, {Path: "a", Data: textOf(impl.MaxBytes)}, {Path: "a", Data: textOf(impl.MaxBytes + 1)},
		{Path: strings.Repeat("a", 21)}, {Path: strings.Repeat("a", impl.MaxBytes)}, {Path: strings.Repeat("a", impl.MaxBytes+1)}}
	for _, path := range []string{"/", "/a", "a/", "a//b", "a/b/c/d", ".", "..", "a/.", "../a", "A", "a b", "a\xff", "\u0161", "a\x00"} {
		l = append(l, impl.File{Path: path, Mode: 420, Data: "x"})
	}
	return l
}

// The faults of TreePut, in their order: what may not be, what clashes, and then what there is no room for.
func TestTreePutFaults(t *testing.T) {
	full := treeOf("a/b/c", "d", "e", "f", "g", "h/i")
	clash := treeOf("a", "a/b")
	code := func(code int64) impl.TreeOut { return impl.TreeOut{Code: code} }
	for _, tree := range []impl.Tree{{}, treeOf("a"), treeOf("a/b", "b"), full, clash, treeOf("b", "a"), {Files: []impl.File{{}}}} {
		for _, f := range wrongFiles() {
			if got := impl.TreePut(tree, f); !sameTreeOut(got, code(impl.ErrForm)) {
				t.Errorf("%.30q, the Mode %d, %d bytes of Data, put into %d files: %+v", f.Path, f.Mode, len(f.Data), len(tree.Files), got)
			}
		}
	}
	for _, c := range []struct {
		what string
		tree impl.Tree
		f    impl.File
		want impl.TreeOut
	}{
		{"t not right, f's own path there", clash, someFile("a"), code(impl.ErrForm)},
		{"t not right, f clashes", clash, someFile("a/b/c"), code(impl.ErrForm)},
		{"t not right, too many, f clashes", treeOf("a", "b", "c", "d", "e", "f", "g"), someFile("a/b"), code(impl.ErrForm)},
		{"f not right, and would clash in the full tree", full, impl.File{Path: "d/x", Mode: 512}, code(impl.ErrForm)},
		{"f not right, and a folder in the full tree", full, impl.File{Path: "a/b", Data: textOf(81)}, code(impl.ErrForm)},
		{"f not right, and there in the full tree", full, impl.File{Path: "d", Mode: -1}, code(impl.ErrForm)},
		{"a folder of another one, the tree full", full, someFile("a/b"), code(impl.ErrState)},
		{"a folder two parts up, the tree full", full, someFile("a"), code(impl.ErrState)},
		{"a folder of the last one, the tree full", full, someFile("h"), code(impl.ErrState)},
		{"under another one, the tree full", full, someFile("d/x"), code(impl.ErrState)},
		{"two parts under another one, the tree full", full, someFile("d/x/y"), code(impl.ErrState)},
		{"under one of two parts, the tree full", full, someFile("h/i/j"), code(impl.ErrState)},
		{"a folder of another one", treeOf("a/b"), someFile("a"), code(impl.ErrState)},
		{"a folder two parts up", treeOf("a/b/c"), someFile("a"), code(impl.ErrState)},
		{"under another one", treeOf("a"), someFile("a/b"), code(impl.ErrState)},
		{"two parts under another one", treeOf("a"), someFile("a/b/c"), code(impl.ErrState)},
		{"under another one, with a path between", treeOf("a", "a-b"), someFile("a/c"), code(impl.ErrState)},
		{"a folder of another one, with a path between", treeOf("a-b", "a/c"), someFile("a"), code(impl.ErrState)},
		{"no room, ahead of all", full, someFile("-"), code(impl.ErrFull)},
		{"no room, between", full, someFile("d0"), code(impl.ErrFull)},
		{"no room, behind all", full, someFile("z"), code(impl.ErrFull)},
		{"no room, beside one of its folder", full, someFile("a/b/d"), code(impl.ErrFull)},
		{"no room, a path that begins as another one", full, someFile("dd"), code(impl.ErrFull)},
	} {
		if got := impl.TreePut(c.tree, c.f); !sameTreeOut(got, c.want) {
			t.Errorf("TreePut, %s: %+v, not %+v", c.what, got, c.want)
		}
	}
	for i, f := range full.Files {
		want := treeCopy(full)
		want.Files[i] = impl.File{Path: f.Path, Mode: 1, Data: "again"}
		if got := impl.TreePut(full, want.Files[i]); !sameTreeOut(got, impl.TreeOut{Tree: want}) {
			t.Errorf("TreePut of %q, its own path in the full tree: %+v", f.Path, got)
		}
	}
	five := impl.Tree{Files: full.Files[:5]}
	if got := impl.TreePut(five, full.Files[5]); !sameTreeOut(got, impl.TreeOut{Tree: full}) {
		t.Errorf("TreePut of the last file that may be: %+v", got)
	}
}

// A file at the edges of what it may be is put, and is there.
func TestTreePutEdges(t *testing.T) {
	for _, f := range []impl.File{{Path: "m"}, {Path: "m", Mode: 511}, {Path: "m", Data: textOf(80)}, {Path: strings.Repeat("m", 20), Mode: 511, Data: strings.Repeat("\x00", 80)},
		{Path: "...", Data: "\xff"}, {Path: "-"}, {Path: ".a/-/b."}, {Path: "mmmmmm/mmmmmm/mmmmmm"}} {
		for _, tree := range []impl.Tree{{}, treeOf("c"), treeOf("a/b", "n", "n0", "o", "p")} {
			got := impl.TreePut(tree, f)
			if !sameTreeOut(got, treePutByOther(tree, f)) || got.Code != impl.OK || impl.FileOf(got.Tree, f.Path) != f {
				t.Errorf("%+v put into %d files: %+v", f, len(tree.Files), got)
			}
			checkRightTree(t, fmt.Sprintf("%d files and %+v", len(tree.Files), f), got.Tree)
		}
	}
}

// The faults of TreeDrop, in their order: a text that is too long, what may not be, and then what is not there.
func TestTreeDropFaults(t *testing.T) {
	wrong := treeOf("a", "a/b")
	for _, c := range []struct {
		what string
		tree impl.Tree
		path string
		code int64
	}{
		{"more than MaxBytes bytes", fullTree(), strings.Repeat("b", impl.MaxBytes+1), impl.ErrSize},
		{"more than MaxBytes bytes, t not right", wrong, strings.Repeat("b", impl.MaxBytes+1), impl.ErrSize},
		{"more than MaxBytes bytes, no files", impl.Tree{}, textOf(impl.MaxBytes + 1), impl.ErrSize},
		{"MaxBytes bytes", fullTree(), strings.Repeat("b", impl.MaxBytes), impl.ErrForm},
		{"t not right, its path there", wrong, "a", impl.ErrForm},
		{"t not right, its path not there", wrong, "c", impl.ErrForm},
		{"t not right, no path", wrong, "", impl.ErrForm},
		{"an empty text", fullTree(), "", impl.ErrForm},
		{"an empty text, no files", impl.Tree{}, "", impl.ErrForm},
		{"a path of one byte too many", fullTree(), strings.Repeat("b", 21), impl.ErrForm},
		{"a part more than may be", fullTree(), "a/b/c/d", impl.ErrForm},
		{"an empty part", fullTree(), "d//e", impl.ErrForm},
		{"a / behind a path that is there", fullTree(), "b/", impl.ErrForm},
		{"a / ahead of a path that is there", fullTree(), "/b", impl.ErrForm},
		{"a part ..", fullTree(), "d/../b", impl.ErrForm},
		{"a part .", fullTree(), "d/./e", impl.ErrForm},
		{"a wrong byte", fullTree(), "B", impl.ErrForm},
		{"a byte from 128 on", fullTree(), "b\xff", impl.ErrForm},
		{"no such path", fullTree(), "c", impl.ErrNone},
		{"no such path, no files", impl.Tree{}, "c", impl.ErrNone},
		{"a folder", fullTree(), "d", impl.ErrNone},
		{"a folder of two parts", fullTree(), "d/g", impl.ErrNone},
		{"under a file", fullTree(), "b/x", impl.ErrNone},
		{"the beginning of a path", fullTree(), "f", impl.ErrNone},
		{"a path of MaxPath bytes", fullTree(), strings.Repeat("b", 20), impl.ErrNone},
	} {
		if got := impl.TreeDrop(c.tree, c.path); !sameTreeOut(got, impl.TreeOut{Code: c.code}) {
			t.Errorf("TreeDrop, %s: %+v, not the code %d", c.what, got, c.code)
		}
	}
}

// unlikeTrees are right trees, each unlike each other one, many of them in one thing alone.
func unlikeTrees() []impl.Tree {
	base := fullTree()
	l := []impl.Tree{{}, {Files: []impl.File{{Path: "a"}}}, {Files: []impl.File{{Path: "a", Data: "a"}}}, {Files: []impl.File{{Path: "a", Data: "\x00"}}},
		{Files: []impl.File{{Path: "a", Mode: 1}}}, {Files: []impl.File{{Path: "aa"}}}, {Files: []impl.File{{Path: "a"}, {Path: "b"}}}, base}
	for i, f := range base.Files {
		for _, other := range []impl.File{
			{Path: f.Path + "0", Mode: f.Mode, Data: f.Data},
			{Path: f.Path, Mode: f.Mode ^ 1, Data: f.Data},
			{Path: f.Path, Mode: f.Mode ^ 256, Data: f.Data},
			{Path: f.Path, Mode: f.Mode, Data: f.Data[1:]},
			{Path: f.Path, Mode: f.Mode, Data: turned(f.Data, 0, 1)},
			{Path: f.Path, Mode: f.Mode, Data: turned(f.Data, len(f.Data)-1, 128)},
		} {
			tree := treeCopy(base)
			tree.Files[i] = other
			l = append(l, tree)
		}
		l = append(l, impl.Tree{Files: slices.Delete(slices.Clone(base.Files), i, i+1)})
	}
	for many := 1; many < len(base.Files)-1; many++ {
		l = append(l, impl.Tree{Files: base.Files[:many]}, impl.Tree{Files: base.Files[len(base.Files)-many:]})
	}
	return l
}

// Promise 10: two trees that are the same have one digest, and others do not.
func TestSameTree(t *testing.T) {
	trees := unlikeTrees()
	for i, a := range trees {
		if !treeByOther(a) {
			t.Fatalf("the tree %d of the test is not right: %+v", i, a)
		}
		for j := range trees {
			b := impl.Tree{}
			for _, f := range trees[j].Files {
				b.Files = append(b.Files, impl.File{Path: strings.Clone(f.Path), Mode: f.Mode, Data: strings.Clone(f.Data)})
			}
			if got := impl.SameTree(a, b); got != (i == j) {
				t.Errorf("SameTree of %+v and %+v is %v", a, b, got)
			}
			if got := impl.TreeDigest(a) == impl.TreeDigest(b); got != (i == j) {
				t.Errorf("the digests of %+v and %+v: alike is %v", a, b, got)
			}
			if got := impl.TreeBytes(a) == impl.TreeBytes(b); got != (i == j) {
				t.Errorf("the bytes of %+v and %+v: alike is %v", a, b, got)
			}
		}
	}
	none, empty := impl.Tree{}, impl.Tree{Files: make([]impl.File, 0, 3)}
	if !impl.SameTree(none, empty) || impl.TreeDigest(none) != impl.TreeDigest(empty) || len(impl.TreeDigest(none)) != 32 {
		t.Error("an empty list and none are not the same")
	}
}

// A wrong tree is the same as none, not even as one of the same files, whichever of both is asked first.
func TestSameTreeOfWrongTrees(t *testing.T) {
	for _, wrong := range []impl.Tree{treeOf("b", "a"), treeOf("a", "a"), treeOf("a", "a/b"), treeOf("A"), {Files: []impl.File{{}}}} {
		for _, other := range []impl.Tree{wrong, treeCopy(wrong), {}, treeOf("a"), treeOf("a", "b")} {
			if impl.SameTree(wrong, other) || impl.SameTree(other, wrong) {
				t.Errorf("%+v and %+v are the same", wrong, other)
			}
		}
	}
}

// treeFaults are texts that are no trees, in the order of the faults.
func treeFaults() []frameFault {
	tree := treeOf("a/b", "c", "d")
	text := treeBytesByOther(tree)
	one := treeBytesByOther(impl.Tree{Files: []impl.File{{Path: "a", Mode: 420, Data: "one"}}})
	l := []frameFault{
		{"more than MaxBytes bytes", textOf(impl.MaxBytes + 1), impl.ErrSize},
		{"more than MaxBytes bytes, a tree ahead", text + textOf(impl.MaxBytes+1-len(text)), impl.ErrSize},
		{"more than MaxBytes bytes, no number", strings.Repeat("\x80", impl.MaxBytes+1), impl.ErrSize},
		{"MaxBytes bytes", textOf(impl.MaxBytes), impl.ErrSyntax},
		{"MaxBytes bytes, a tree ahead", text + textOf(impl.MaxBytes-len(text)), impl.ErrSyntax},
		{"MaxBytes bytes 0", strings.Repeat("\x00", impl.MaxBytes), impl.ErrSyntax},
		{"nothing", "", impl.ErrSyntax},
		{"no file, and a byte left", "\x00\x00", impl.ErrSyntax},
		{"-1 files", "\x01", impl.ErrSyntax},
		{"-1 files, and one file", "\x01" + one[1:], impl.ErrSyntax},
		{"no files, and one file", "\x00" + one[1:], impl.ErrSyntax},
		{"two files, and one file", "\x04" + one[1:], impl.ErrSyntax},
		{"no number", "\x80", impl.ErrSyntax},
		{"no files in two bytes", "\x80\x00", impl.ErrSyntax},
		{"the greatest number of files", string(binary.AppendVarint(nil, math.MaxInt64)) + one[1:], impl.ErrSyntax},
		{"the least number of files", string(binary.AppendVarint(nil, math.MinInt64)) + one[1:], impl.ErrSyntax},
		{"2^32 and one files", string(binary.AppendVarint(nil, 1<<32+1)) + one[1:], impl.ErrSyntax},
		{"a tree behind a byte", "\x00" + one, impl.ErrSyntax},
		{"a tree twice", one + one, impl.ErrSyntax},
		{"a tree and the byte 0", text + "\x00", impl.ErrSyntax},
		{"a tree and the byte 128", text + "\x80", impl.ErrSyntax},
		{"one file, in two bytes", longNum(1) + one[1:], impl.ErrSyntax},
		{"a path's length in two bytes", "\x02" + longNum(1) + "a\xc8\x06\x06one", impl.ErrSyntax},
		{"a Mode in three bytes", "\x02\x02a" + longNum(420) + "\x06one", impl.ErrSyntax},
		{"a Data's length in two bytes", "\x02\x02a\xc8\x06" + longNum(3) + "one", impl.ErrSyntax},
		{"a path's length below 0", "\x02\x01a\xc8\x06\x06one", impl.ErrSyntax},
		{"a Data's length below 0", "\x02\x02a\xc8\x06\x01one", impl.ErrSyntax},
		{"a Data's length of more than there is", "\x02\x02a\xc8\x06\x08one", impl.ErrSyntax},
		{"a Data's length of less than there is", "\x02\x02a\xc8\x06\x04one", impl.ErrSyntax},
		{"a Data's length of more than MaxBytes", "\x02\x02a\xc8\x06" + string(binary.AppendVarint(nil, impl.MaxBytes+1)) + "one", impl.ErrSyntax},
		{"a sealed tree", sealedByOther(one), impl.ErrSyntax},
		{"a tree with a fault at the end of the last file", treeBytesByOther(treeOf("a", "b", "c"))[:3] + "\xff", impl.ErrSyntax},
		{"seven files, six told", "\x0c" + treeBytesByOther(treeOf("a", "b", "c", "d", "e", "f", "g"))[1:], impl.ErrSyntax},
		{"six files, seven told", "\x0e" + treeBytesByOther(treeOf("a", "b", "c", "d", "e", "f"))[1:], impl.ErrSyntax},
	}
	for most := range len(text) {
		l = append(l, frameFault{fmt.Sprintf("the first %d bytes", most), text[:most], impl.ErrSyntax})
	}
	for from := 1; from < len(text); from++ {
		if text[from:] != "\x00" {
			l = append(l, frameFault{fmt.Sprintf("the bytes from %d on", from), text[from:], impl.ErrSyntax})
		}
	}
	return l
}

func TestTreeReadFaults(t *testing.T) {
	for _, c := range treeFaults() {
		if got := impl.TreeRead(c.text); !sameTreeOut(got, impl.TreeOut{Code: c.code}) {
			t.Errorf("TreeRead of %s: %+v, not the code %d", c.what, got, c.code)
		}
	}
}

// Each byte of a tree turned: what is then read has these bytes, or is refused.
func TestTurnedTree(t *testing.T) {
	tree := treeOf("a/b", "c", "d.e")
	text := treeBytesByOther(tree)
	read, refused := 0, 0
	for at := range len(text) {
		for by := 1; by < 256; by++ {
			other := turned(text, at, byte(by))
			got := impl.TreeRead(other)
			if sameTreeOut(got, impl.TreeOut{Code: impl.ErrSyntax}) {
				refused++
				continue
			}
			read++
			if got.Code != impl.OK || !treeByOther(got.Tree) || treeBytesByOther(got.Tree) != other || impl.SameTree(got.Tree, tree) {
				t.Fatalf("turned at %d by %d: %+v", at, by, got)
			}
		}
	}
	if read == 0 || refused == 0 {
		t.Errorf("%d turned trees are read, and %d refused", read, refused)
	}
}

// textsOfTree are all the texts of a tree.
func textsOfTree(t impl.Tree) []string {
	var l []string
	for _, f := range t.Files {
		l = append(l, f.Path, f.Data)
	}
	return l
}

// checkUnshared tells of each two texts of unlike lists that lie in the same memory.
func checkUnshared(t *testing.T, what string, lists ...[]string) {
	t.Helper()
	for i, l := range lists {
		for _, other := range lists[:i] {
			for _, a := range l {
				for _, b := range other {
					if shares(a, b) {
						t.Errorf("%s: %q shares memory", what, a)
					}
				}
			}
		}
	}
}

// No answer lies where an argument or another answer does.
func TestTreesShareNothing(t *testing.T) {
	tree := treeOf("bb", "dd/ee", "dd/gg/hh", "ff.xx", "jj")
	f := someFile("hh")
	texts := textsOfTree(tree)
	put, again, over := impl.TreePut(tree, f).Tree, impl.TreePut(tree, f).Tree, impl.TreePut(tree, tree.Files[2]).Tree
	checkUnshared(t, "put", texts, []string{f.Path, f.Data}, textsOfTree(put), textsOfTree(again), textsOfTree(over))
	dropped, second := impl.TreeDrop(tree, "ff.xx").Tree, impl.TreeDrop(tree, "ff.xx").Tree
	checkUnshared(t, "dropped", texts, textsOfTree(dropped), textsOfTree(second))
	path := strings.Clone("dd/gg/hh")
	one, two := impl.FileOf(tree, path), impl.FileOf(tree, path)
	checkUnshared(t, "a file", texts, []string{path}, []string{one.Path, one.Data}, []string{two.Path, two.Data})
	text := impl.TreeBytes(tree)
	checkUnshared(t, "read", texts, []string{text}, textsOfTree(impl.TreeRead(text).Tree), textsOfTree(impl.TreeRead(text).Tree), []string{impl.TreeBytes(tree)})
	checkUnshared(t, "digests", []string{text}, []string{impl.TreeDigest(tree)}, []string{impl.TreeDigest(tree)})
}

// scribbleTree writes over all that can be reached of a tree, even behind the end of its list.
func scribbleTree(t impl.Tree) {
	files := t.Files[:cap(t.Files)]
	for i := range files {
		files[i] = impl.File{Path: "scribbled", Mode: 1, Data: "scribbled"}
	}
}

// What is handed in is not changed, not even behind the end of its list, and nothing handed back lies there.
func TestTreesHandedInAreNotChanged(t *testing.T) {
	for _, c := range treeCases() {
		all := append(slices.Clone(c.tree.Files), impl.File{Path: "spare"}, impl.File{Path: "spare"})
		files := slices.Clone(all)
		tree := impl.Tree{Files: files[:len(c.tree.Files)]}
		text := impl.TreeBytes(tree)
		for _, path := range []string{"-", "a", "b", "c", "d", "e", "y", "z", "zz"} {
			scribbleTree(impl.TreePut(tree, impl.File{Path: path, Data: "put"}).Tree)
			scribbleTree(impl.TreeDrop(tree, path).Tree)
			impl.FileOf(tree, path)
		}
		impl.SameTree(tree, c.tree)
		impl.TreeDigest(tree)
		if !slices.Equal(files, all) {
			t.Errorf("a tree of %s has changed", c.what)
		}
		scribbleTree(impl.TreeRead(text).Tree)
		if got := impl.TreeRead(text); text != "" && !sameTreeOut(got, impl.TreeOut{Tree: c.tree}) {
			t.Errorf("a tree of %s: what was handed back is kept", c.what)
		}
	}
}
