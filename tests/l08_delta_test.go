package tests

import (
	"encoding/binary"
	"fmt"
	"math"
	"slices"
	"strings"
	"testing"

	"loop.example/g00626/impl"
)

// stepByOther tells by other means whether a step may be so.
func stepByOther(s impl.Step) bool {
	if len(s.Text) > 0 {
		return s == impl.Step{Text: s.Text} && len(s.Text) <= 80
	}
	return 0 <= s.From && s.From <= 80 && 1 <= s.Many && s.Many <= 80
}

func stepsByOther(l []impl.Step) bool {
	return len(l) <= 3 && !slices.ContainsFunc(l, func(s impl.Step) bool { return !stepByOther(s) })
}

// opByOther tells by other means whether an op is right.
func opByOther(o impl.Op) bool {
	if !pathByOther(o.Path) || o.Mode < 0 || o.Mode > 511 {
		return false
	}
	switch o.Kind {
	case 1:
		return len(o.Data) <= 80 && len(o.Steps) == 0
	case 2:
		return o.Mode == 0 && o.Data == "" && len(o.Steps) == 0
	}
	return o.Kind == 3 && o.Data == "" && stepsByOther(o.Steps)
}

// opsBytesByOther are the bytes of ops, right or not, made by other means.
func opsBytesByOther(l []impl.Op) string {
	text := varints(int64(len(l)))
	for _, o := range l {
		text += varints(o.Kind) + textByOther(o.Path) + varints(o.Mode) + textByOther(o.Data) + varints(int64(len(o.Steps)))
		for _, s := range o.Steps {
			text += varints(s.From, s.Many) + textByOther(s.Text)
		}
	}
	return text
}

func varints(nums ...int64) string {
	var b []byte
	for _, n := range nums {
		b = binary.AppendVarint(b, n)
	}
	return string(b)
}

// alikeByOther is how many bytes are alike at the beginning, and then at the end, of two texts.
func alikeByOther(old string, text string) (int, int) {
	ahead, behind := min(len(old), len(text)), 0
	for !strings.HasPrefix(text, old[:ahead]) {
		ahead--
	}
	behind = min(len(old), len(text)) - ahead
	for !strings.HasSuffix(text, old[len(old)-behind:]) {
		behind--
	}
	return ahead, behind
}

// stepsOfByOther tells by other means what has changed of two texts that are not too long.
func stepsOfByOther(old string, text string) []impl.Step {
	ahead, behind := alikeByOther(old, text)
	all := []impl.Step{{Many: int64(ahead)}, {Text: text[ahead : len(text)-behind]}, {From: int64(len(old) - behind), Many: int64(behind)}}
	return slices.DeleteFunc(all, func(s impl.Step) bool { return s.Many == 0 && s.Text == "" })
}

// stepsDoByOther tells by other means what comes of an old text that is not too long by steps that may be so.
func stepsDoByOther(old string, l []impl.Step) impl.TextOut {
	text, code := "", int64(impl.OK)
	for _, s := range l {
		if int(s.From+s.Many) > len(old) {
			return impl.TextOut{Code: impl.ErrRange}
		}
		text += s.Text + old[s.From:s.From+s.Many]
	}
	if len(text) > 80 {
		text, code = "", impl.ErrFull
	}
	return impl.TextOut{Text: text, Code: code}
}

// fileByPath is the file of a tree that has that path; false, if none has.
func fileByPath(t impl.Tree, path string) (impl.File, bool) {
	at := slices.IndexFunc(t.Files, func(f impl.File) bool { return f.Path == path })
	if at < 0 {
		return impl.File{}, false
	}
	return t.Files[at], true
}

// deltaByOther tells by other means what has changed of two right trees.
func deltaByOther(a impl.Tree, b impl.Tree) []impl.Op {
	var l []impl.Op
	for _, f := range a.Files {
		if _, stays := fileByPath(b, f.Path); !stays {
			l = append(l, impl.Op{Kind: 2, Path: f.Path})
		}
	}
	for _, f := range b.Files {
		old, was := fileByPath(a, f.Path)
		x, y := old.Data, f.Data
		switch {
		case was && old == f:
		case was && x != "" && y != "" && (x[0] == y[0] || x[len(x)-1] == y[len(y)-1]):
			l = append(l, impl.Op{Kind: 3, Path: f.Path, Mode: f.Mode, Steps: stepsOfByOther(x, y)})
		default:
			l = append(l, impl.Op{Kind: 1, Path: f.Path, Mode: f.Mode, Data: y})
		}
	}
	return l
}

// deltaDoByOther tells by other means what comes of a right tree by right ops.
func deltaDoByOther(a impl.Tree, l []impl.Op) impl.TreeOut {
	out := impl.TreeOut{Tree: a}
	for _, o := range l {
		f := impl.File{Path: o.Path, Mode: o.Mode, Data: o.Data}
		if o.Kind == 3 {
			old, was := fileByPath(out.Tree, o.Path)
			if !was {
				return impl.TreeOut{Code: impl.ErrNone}
			}
			text := stepsDoByOther(old.Data, o.Steps)
			if text.Code != impl.OK {
				return impl.TreeOut{Code: text.Code}
			}
			f.Data = text.Text
		}
		if o.Kind == 2 {
			out = treeDropByOther(out.Tree, o.Path)
		} else {
			out = treePutByOther(out.Tree, f)
		}
		if out.Code != impl.OK {
			return out
		}
	}
	return out
}

// sameOps compares ops; an empty list and none are the same.
func sameOps(a []impl.Op, b []impl.Op) bool {
	return slices.EqualFunc(a, b, func(x impl.Op, y impl.Op) bool {
		return x.Kind == y.Kind && x.Path == y.Path && x.Mode == y.Mode && x.Data == y.Data && slices.Equal(x.Steps, y.Steps)
	})
}

func sameOpsOut(a impl.OpsOut, b impl.OpsOut) bool {
	return sameOps(a.Ops, b.Ops) && a.Code == b.Code
}

// opsCopy is a copy of ops that shares no list with them.
func opsCopy(l []impl.Op) []impl.Op {
	copied := slices.Clone(l)
	for i := range copied {
		copied[i].Steps = slices.Clone(copied[i].Steps)
	}
	return copied
}

func putOp(path string, mode int64, data string) impl.Op {
	return impl.Op{Kind: impl.DoPut, Path: path, Mode: mode, Data: data}
}

func dropOp(path string) impl.Op {
	return impl.Op{Kind: impl.DoDrop, Path: path}
}

func patchOp(path string, mode int64, steps ...impl.Step) impl.Op {
	return impl.Op{Kind: impl.DoPatch, Path: path, Mode: mode, Steps: steps}
}

func takes(from int64, many int64) impl.Step {
	return impl.Step{From: from, Many: many}
}

func says(text string) impl.Step {
	return impl.Step{Text: text}
}

// farNumbers are numbers around those edges, and some far away that are like small ones if only some of their bits are looked at.
func farNumbers(edges ...int64) []int64 {
	l := []int64{math.MinInt64, math.MinInt64 + 1, -1 << 32, -256, -80, -1, 0, 1, 2, 256, 257, 1 << 32, 1<<32 + 1, 1<<32 + 3, math.MaxInt64 - 1, math.MaxInt64}
	for _, n := range edges {
		l = append(l, n-1, n, n+1)
	}
	return l
}

type opCase struct {
	what  string
	op    impl.Op
	right bool
}

// fieldCases are ops of which one field lies at the edges of what it may be.
func fieldCases() []opCase {
	var l []opCase
	for _, n := range farNumbers(1, 3) {
		l = append(l, opCase{fmt.Sprintf("a Kind of %d", n), impl.Op{Kind: n, Path: "a"}, n >= 1 && n <= 3})
		l = append(l, opCase{fmt.Sprintf("a Kind of %d, with Mode and Data", n), impl.Op{Kind: n, Path: "a", Mode: 1, Data: "x"}, n == 1})
		l = append(l, opCase{fmt.Sprintf("a Kind of %d, with Mode and Steps", n), impl.Op{Kind: n, Path: "a", Mode: 1, Steps: []impl.Step{says("x")}}, n == 3})
	}
	for _, n := range farNumbers(511) {
		in := n >= 0 && n <= 511
		l = append(l, opCase{fmt.Sprintf("a DoPut of the Mode %d", n), putOp("a", n, "x"), in})
		l = append(l, opCase{fmt.Sprintf("a DoPatch of the Mode %d", n), patchOp("a", n, says("x")), in})
		l = append(l, opCase{fmt.Sprintf("a DoPatch of the Mode %d without Steps", n), patchOp("a", n), in})
		l = append(l, opCase{fmt.Sprintf("a DoDrop of the Mode %d", n), impl.Op{Kind: impl.DoDrop, Path: "a", Mode: n}, n == 0})
	}
	for _, n := range []int{0, 1, 79, 80, 81, 256, 336, impl.MaxBytes, impl.MaxBytes + 1, 3 * impl.MaxBytes} {
		l = append(l, opCase{fmt.Sprintf("a DoPut of %d bytes", n), putOp("a", 1, textOf(n)), n <= 80})
		l = append(l, opCase{fmt.Sprintf("a DoPatch with %d bytes of Data", n), impl.Op{Kind: impl.DoPatch, Path: "a", Data: textOf(n)}, n == 0})
		l = append(l, opCase{fmt.Sprintf("a DoPatch with %d bytes of Data, and Steps", n), impl.Op{Kind: impl.DoPatch, Path: "a", Data: textOf(n), Steps: []impl.Step{says("x")}}, n == 0})
		l = append(l, opCase{fmt.Sprintf("a DoDrop with %d bytes of Data", n), impl.Op{Kind: impl.DoDrop, Path: "a", Data: textOf(n)}, n == 0})
	}
	for _, path := range []string{"", "a", "/", "a/b/c", "a/b/c/d", "a//b", "/a", "a/", ".", "..", "...", "a/..", "A", "a_", "\xe9", "a\x00",
		strings.Repeat("p", 20), strings.Repeat("p", 21), strings.Repeat("p", impl.MaxBytes), strings.Repeat("p", impl.MaxBytes+1)} {
		for _, o := range []impl.Op{putOp(path, 1, "x"), dropOp(path), patchOp(path, 1, says("x")), patchOp(path, 0)} {
			l = append(l, opCase{fmt.Sprintf("the Kind %d of the path %.30q of %d bytes", o.Kind, path, len(path)), o, pathByOther(path)})
		}
	}
	return append(l, opCase{"nothing", impl.Op{}, false})
}

// stepsCases are lists of steps, of which one lies at the edges of what it may be.
func stepsCases() map[string][]impl.Step {
	l := map[string][]impl.Step{"no Steps": nil, "an empty list of Steps": {}}
	for _, n := range farNumbers(80) {
		for _, other := range []int64{-1, 0, 1, 2, 80, 81} {
			for _, text := range []string{"", "x"} {
				l[fmt.Sprintf("From %d, Many %d, Text %q", n, other, text)] = []impl.Step{{From: n, Many: other, Text: text}}
				l[fmt.Sprintf("From %d, Many %d, Text %q", other, n, text)] = []impl.Step{{From: other, Many: n, Text: text}}
			}
		}
	}
	for _, n := range []int{0, 1, 2, 79, 80, 81, 256, 257, impl.MaxBytes, impl.MaxBytes + 1} {
		for _, s := range []impl.Step{{}, {From: 1}, {Many: 1}, {From: 1, Many: 1}, {From: -1}, {Many: -1}, {From: 80, Many: 80}} {
			s.Text = textOf(n)
			l[fmt.Sprintf("From %d, Many %d, %d bytes of Text", s.From, s.Many, n)] = []impl.Step{s}
		}
	}
	for _, wrong := range []impl.Step{{}, {From: -1, Many: 1}, {From: 81, Many: 1}, {Many: 81}, {Many: 1, Text: "x"}, {From: 1, Text: "x"}, says(textOf(81))} {
		for at := range 3 {
			three := []impl.Step{takes(0, 1), says("x"), takes(1, 1)}
			three[at] = wrong
			l[fmt.Sprintf("three Steps, %d of them From %d, Many %d, %d bytes of Text", at, wrong.From, wrong.Many, len(wrong.Text))] = three
		}
	}
	for _, n := range []int{1, 2, 3, 4, 5, 6, 256, 257, impl.MaxList, impl.MaxList + 1} {
		l[fmt.Sprintf("%d Steps that say something", n)] = slices.Repeat([]impl.Step{says("x")}, n)
		l[fmt.Sprintf("%d Steps that take something", n)] = slices.Repeat([]impl.Step{takes(0, 1)}, n)
	}
	l["nothing and three Steps"] = []impl.Step{{}, says("x"), says("y"), says("z")}
	return l
}

// opCases are all ops at the edges of what they may be. Of one Kind alone Steps may be at all.
func opCases() []opCase {
	l := fieldCases()
	for what, steps := range stepsCases() {
		l = append(l, opCase{"a DoPatch with " + what, impl.Op{Kind: impl.DoPatch, Path: "a", Mode: 511, Steps: steps}, stepsByOther(steps)})
		l = append(l, opCase{"a DoPut with " + what, impl.Op{Kind: impl.DoPut, Path: "a", Data: "x", Steps: steps}, len(steps) == 0})
		l = append(l, opCase{"a DoDrop with " + what, impl.Op{Kind: impl.DoDrop, Path: "a", Steps: steps}, len(steps) == 0})
	}
	return l
}

// checkOps asks all that takes ops of some that are right, or are not.
func checkOps(t *testing.T, what string, l []impl.Op, right bool) {
	t.Helper()
	if got := impl.OpsRight(l); got != right {
		t.Errorf("%s: OpsRight is %v", what, got)
	}
	text, form := opsBytesByOther(l), int64(impl.ErrForm)
	if right {
		if got := impl.OpsBytes(l); got != text {
			t.Errorf("%s: the bytes are %q, not %q", what, got, text)
		}
		if got := impl.OpsRead(text); !sameOpsOut(got, impl.OpsOut{Ops: l}) {
			t.Errorf("%s: come back with the code %d, %d of them", what, got.Code, len(got.Ops))
		}
		return
	}
	if got := impl.OpsBytes(l); got != "" {
		t.Errorf("%s: the bytes are %q", what, got)
	}
	want := impl.OpsOut{Code: impl.ErrSyntax}
	if len(text) > impl.MaxBytes {
		want.Code = impl.ErrSize
	}
	if got := impl.OpsRead(text); !sameOpsOut(got, want) {
		t.Errorf("%s: read with the code %d, not %d", what, got.Code, want.Code)
	}
	if len(l) > impl.MaxList {
		form = impl.ErrSize
	}
	for _, tree := range []impl.Tree{{}, treeOf("a"), fullTree(), treeOf("b", "a")} {
		if got := impl.DeltaDo(tree, l); !sameTreeOut(got, impl.TreeOut{Code: form}) {
			t.Errorf("%s: DeltaDo tells the code %d, not %d", what, got.Code, form)
		}
	}
}

func TestDeltaConstants(t *testing.T) {
	if impl.DoPut != 1 || impl.DoDrop != 2 || impl.DoPatch != 3 || impl.MaxOps != 12 {
		t.Error("a kind or a limit of ops is another one")
	}
}

// Promise 11: ops come back from their bytes; what is none is refused, wherever it stands among others.
func TestOpsOfEachEdge(t *testing.T) {
	right := 0
	for _, c := range opCases() {
		if opByOther(c.op) != c.right {
			t.Fatalf("the test is of two minds whether %s is right", c.what)
		}
		if c.right {
			right++
		}
		others := []impl.Op{putOp("b", 1, "x"), dropOp("c"), patchOp("b", 2, takes(0, 1), says("y"))}
		checkOps(t, c.what, []impl.Op{c.op}, c.right)
		for at := range len(others) + 1 {
			checkOps(t, fmt.Sprintf("%s, the number %d of four", c.what, at), slices.Insert(slices.Clone(others), at, c.op), c.right)
		}
		full := slices.Repeat([]impl.Op{dropOp("b")}, impl.MaxOps)
		full[impl.MaxOps-1] = c.op
		checkOps(t, c.what+", the last of MaxOps", full, c.right)
	}
	if right < 80 {
		t.Errorf("only %d ops are right", right)
	}
}

func TestOpsOfEachCount(t *testing.T) {
	checkOps(t, "none", nil, true)
	checkOps(t, "an empty list", []impl.Op{}, true)
	long := patchOp(strings.Repeat("p", 20), 511, says(textOf(80)), says(textOf(80)), says(textOf(80)))
	for _, n := range []int{1, 2, 11, 12, 13, 14, 24, 256, 257, 268, impl.MaxList, impl.MaxList + 1, 3 * impl.MaxList} {
		for _, o := range []impl.Op{dropOp("a"), putOp("a", 1, "x"), patchOp("a", 1, says("x")), long} {
			checkOps(t, fmt.Sprintf("%d ops of the Kind %d", n, o.Kind), slices.Repeat([]impl.Op{o}, n), n <= 12)
		}
	}
	// Neither their order nor that one Path is there twice makes ops wrong.
	checkOps(t, "paths that fall and repeat", []impl.Op{putOp("b", 1, "x"), dropOp("a"), putOp("b", 2, "y"), dropOp("b"), dropOp("b"), putOp("b/c", 1, "")}, true)
}

func TestKnownOpsBytes(t *testing.T) {
	for _, c := range []struct {
		ops  []impl.Op
		want string
	}{
		{nil, "\x00"},
		{[]impl.Op{dropOp("a")}, "\x02\x04\x02a\x00\x00\x00"},
		{[]impl.Op{putOp("a/b", 420, "one")}, "\x02\x02\x06a/b\xc8\x06\x06one\x00"},
		{[]impl.Op{patchOp("a", 511)}, "\x02\x06\x02a\xfe\x07\x00\x00"},
		{[]impl.Op{patchOp("a", 1, takes(0, 3), says("!"), takes(80, 64))}, "\x02\x06\x02a\x02\x00\x06\x00\x06\x00\x00\x00\x02!\xa0\x01\x80\x01\x00"},
		{[]impl.Op{dropOp("b"), putOp("a", 0, "\xff")}, "\x04\x04\x02b\x00\x00\x00\x02\x02a\x00\x02\xff\x00"},
	} {
		if got := impl.OpsBytes(c.ops); got != c.want {
			t.Errorf("%+v have the bytes %x, not %x", c.ops, got, c.want)
		}
		if got := impl.OpsRead(c.want); !sameOpsOut(got, impl.OpsOut{Ops: c.ops}) {
			t.Errorf("%x is read as %+v", c.want, got)
		}
	}
}

func TestKnownSteps(t *testing.T) {
	for _, c := range []struct {
		old  string
		text string
		want []impl.Step
	}{
		{"", "", nil},
		{"", "x", []impl.Step{says("x")}},
		{"x", "", nil},
		{"x", "x", []impl.Step{takes(0, 1)}},
		{"x", "y", []impl.Step{says("y")}},
		{"one", "one", []impl.Step{takes(0, 3)}},
		{"one two", "one and two", []impl.Step{takes(0, 4), says("and "), takes(4, 3)}},
		{"one and two", "one two", []impl.Step{takes(0, 4), takes(8, 3)}},
		{"one two", "one xyz", []impl.Step{takes(0, 4), says("xyz")}},
		{"one two", "abc two", []impl.Step{says("abc"), takes(3, 4)}},
		{"one", "one two", []impl.Step{takes(0, 3), says(" two")}},
		{"two", "one two", []impl.Step{says("one "), takes(0, 3)}},
		{"one two", "one", []impl.Step{takes(0, 3)}},
		{"one two", "two", []impl.Step{takes(4, 3)}},
		{"aa", "a", []impl.Step{takes(0, 1)}},
		{"a", "aa", []impl.Step{takes(0, 1), says("a")}},
		{"aaa", "aaaaa", []impl.Step{takes(0, 3), says("aa")}},
		{"aaaaa", "aaa", []impl.Step{takes(0, 3)}},
		{"aba", "a", []impl.Step{takes(0, 1)}},
		{"aba", "ababa", []impl.Step{takes(0, 3), says("ba")}},
		{"abba", "aba", []impl.Step{takes(0, 2), takes(3, 1)}},
		{"abab", "ab", []impl.Step{takes(0, 2)}},
		{"xab", "yab", []impl.Step{says("y"), takes(1, 2)}},
		{"abc", "xyz", []impl.Step{says("xyz")}},
		{"\x00\xff", "\x00\x80\xff", []impl.Step{takes(0, 1), says("\x80"), takes(1, 1)}},
	} {
		if got := impl.StepsOf(c.old, c.text); !slices.Equal(got, c.want) {
			t.Errorf("StepsOf %q and %q: %+v, not %+v", c.old, c.text, got, c.want)
		}
	}
}

// checkSteps asks whether what has changed of two texts makes of the one the other one.
func checkSteps(t *testing.T, old string, text string) {
	t.Helper()
	l := impl.StepsOf(old, text)
	if want := stepsOfByOther(old, text); !slices.Equal(l, want) {
		t.Fatalf("StepsOf %q and %q: %+v, not %+v", old, text, l, want)
	}
	if got := impl.StepsDo(old, l); got != (impl.TextOut{Text: text}) {
		t.Fatalf("%+v make of %q %+v, not %q", l, old, got, text)
	}
	if !impl.OpsRight([]impl.Op{patchOp("a", 0, l...)}) {
		t.Fatalf("the Steps of %q and %q are not right: %+v", old, text, l)
	}
}

func TestStepsOfFewBytes(t *testing.T) {
	texts := []string{""}
	for at := 0; len(texts) < 400; at++ {
		for _, b := range []string{"a", "b", "\xff"} {
			texts = append(texts, texts[at]+b)
		}
	}
	for _, old := range texts {
		for _, text := range texts {
			checkSteps(t, old, text)
		}
	}
}

// Texts of up to MaxFile bytes that are alike at the beginning and at the end, in each choice of how many bytes, and in all lengths.
func TestStepsOfEachSize(t *testing.T) {
	full := textOf(80)
	sizes := []int{0, 1, 2, 39, 40, 41, 78, 79, 80}
	for _, ahead := range sizes {
		for _, behind := range sizes {
			for _, between := range []string{"", "\x01", "\x01\x02", strings.Repeat("\x01", 40), strings.Repeat("\x01", 78), strings.Repeat("\x01", 79), strings.Repeat("\x01", 80)} {
				if ahead+behind > 80 || ahead+behind+len(between) > 80 {
					continue
				}
				text := full[:ahead] + between + full[80-behind:]
				checkSteps(t, full, text)
				checkSteps(t, text, full)
				checkSteps(t, text, full[:ahead]+full[80-behind:])
				checkSteps(t, full[:ahead]+strings.Repeat("\x03", 80-ahead-behind)+full[80-behind:], text)
			}
		}
	}
	for n := range 81 {
		for m := range 81 {
			checkSteps(t, full[:n], full[:m])
			checkSteps(t, full[n:], full[m:])
			checkSteps(t, strings.Repeat("s", n), strings.Repeat("s", m))
			checkSteps(t, full[:n], strings.Repeat("\x01", m))
		}
	}
}

// Of a text that is too long there are no steps, whichever of both it is.
func TestStepsOfTooMuch(t *testing.T) {
	for _, n := range []int{81, 82, 160, 256, 257, 336, impl.MaxBytes, impl.MaxBytes + 1, 3 * impl.MaxBytes} {
		long := strings.Repeat("x", n)
		for _, other := range []string{"", "x", "y", strings.Repeat("x", 80), long} {
			if got := impl.StepsOf(long, other); len(got) > 0 {
				t.Errorf("StepsOf %d bytes and %d bytes: %d Steps", n, len(other), len(got))
			}
			if got := impl.StepsOf(other, long); len(got) > 0 {
				t.Errorf("StepsOf %d bytes and %d bytes: %d Steps", len(other), n, len(got))
			}
		}
	}
}

type doCase struct {
	what  string
	old   string
	steps []impl.Step
	want  impl.TextOut
}

// doCases are steps that are done, or not, in the order of the faults.
func doCases() []doCase {
	code := func(c int64) impl.TextOut { return impl.TextOut{Code: c} }
	full, half := textOf(80), textOf(40)
	one, much, wrong := []impl.Step{takes(0, 1)}, []impl.Step{says(full), says("x")}, []impl.Step{{}}
	return []doCase{
		{"nothing", "", nil, impl.TextOut{}},
		{"nothing of a text", "old", nil, impl.TextOut{}},
		{"an empty list", "old", []impl.Step{}, impl.TextOut{}},
		{"all of MaxFile bytes", full, []impl.Step{takes(0, 80)}, impl.TextOut{Text: full}},
		{"MaxFile bytes said", "", []impl.Step{says(full)}, impl.TextOut{Text: full}},
		{"the last byte of MaxFile", full, []impl.Step{takes(79, 1)}, impl.TextOut{Text: full[79:]}},
		{"one after the other, not by their places", "abcdef", []impl.Step{takes(4, 2), says("-"), takes(0, 2)}, impl.TextOut{Text: "ef-ab"}},
		{"one thing thrice", "abc", []impl.Step{takes(1, 2), takes(1, 2), takes(0, 3)}, impl.TextOut{Text: "bcbcabc"}},
		{"up to the end", "abc", []impl.Step{takes(2, 1), takes(0, 3), takes(1, 2)}, impl.TextOut{Text: "cabcbc"}},
		{"one byte beyond the end", "abc", []impl.Step{takes(2, 2)}, code(impl.ErrRange)},
		{"one byte beyond the end, from the beginning on", "abc", []impl.Step{takes(0, 4)}, code(impl.ErrRange)},
		{"a From at the end", "abc", []impl.Step{takes(3, 1)}, code(impl.ErrRange)},
		{"a From beyond the end", "abc", []impl.Step{takes(4, 1)}, code(impl.ErrRange)},
		{"a From of MaxFile, of MaxFile bytes", full, []impl.Step{takes(80, 1)}, code(impl.ErrRange)},
		{"the greatest From and Many", full, []impl.Step{takes(80, 80)}, code(impl.ErrRange)},
		{"a byte of none", "", one, code(impl.ErrRange)},
		{"MaxFile bytes, of one less", full[:79], []impl.Step{takes(0, 80)}, code(impl.ErrRange)},
		{"beyond the end behind others", "abc", []impl.Step{says("x"), takes(0, 3), takes(1, 3)}, code(impl.ErrRange)},
		{"MaxFile bytes in three Steps", half, []impl.Step{takes(0, 40), says("x"), takes(1, 39)}, impl.TextOut{Text: half + "x" + half[1:]}},
		{"one byte more in three Steps", half, []impl.Step{takes(0, 40), says("x"), takes(0, 40)}, code(impl.ErrFull)},
		{"one byte more in two Steps that take", half + "x", []impl.Step{takes(0, 41), takes(0, 40)}, code(impl.ErrFull)},
		{"one byte more in two Steps that say", "", much, code(impl.ErrFull)},
		{"three times MaxFile bytes", full, []impl.Step{takes(0, 80), says(full), takes(0, 80)}, code(impl.ErrFull)},
		{"too many bytes, and beyond the end ahead of these", "abc", []impl.Step{takes(0, 4), says(full), says(full)}, code(impl.ErrRange)},
		{"too many bytes, and beyond the end between these", "abc", []impl.Step{says(full), takes(0, 4), says(full)}, code(impl.ErrRange)},
		{"too many bytes, and beyond the end behind these", "abc", []impl.Step{says(full), says(full), takes(0, 4)}, code(impl.ErrRange)},
		{"too many bytes, of which some are beyond the end", half, []impl.Step{takes(0, 80), takes(0, 1)}, code(impl.ErrRange)},
		{"a wrong Step, and beyond the end ahead of it", "abc", []impl.Step{takes(0, 4), {}}, code(impl.ErrForm)},
		{"a wrong Step, and too many bytes ahead of it", "abc", []impl.Step{says(full), says(full), {}}, code(impl.ErrForm)},
		{"four Steps, beyond the end", "abc", slices.Repeat([]impl.Step{takes(0, 4)}, 4), code(impl.ErrForm)},
		{"four Steps, too many bytes", "abc", slices.Repeat([]impl.Step{says(full)}, 4), code(impl.ErrForm)},
		{"four Steps", "abc", slices.Repeat(one, 4), code(impl.ErrForm)},
		{"old of one byte too many", textOf(81), one, code(impl.ErrForm)},
		{"old of one byte too many, no Steps", textOf(81), nil, code(impl.ErrForm)},
		{"old of one byte too many, beyond the end", textOf(81), []impl.Step{takes(80, 80)}, code(impl.ErrForm)},
		{"old of one byte too many, too many bytes", textOf(81), much, code(impl.ErrForm)},
		{"old of one byte too many, a wrong Step", textOf(81), wrong, code(impl.ErrForm)},
		{"old of MaxBytes bytes", textOf(impl.MaxBytes), one, code(impl.ErrForm)},
		{"old of MaxBytes bytes, a wrong Step", textOf(impl.MaxBytes), wrong, code(impl.ErrForm)},
		{"old of more than MaxBytes bytes", textOf(impl.MaxBytes + 1), one, code(impl.ErrSize)},
		{"old of more than MaxBytes bytes, no Steps", textOf(impl.MaxBytes + 1), nil, code(impl.ErrSize)},
		{"old of more than MaxBytes bytes, a wrong Step", textOf(impl.MaxBytes + 1), wrong, code(impl.ErrSize)},
		{"MaxList Steps", "abc", slices.Repeat(one, impl.MaxList), code(impl.ErrForm)},
		{"more than MaxList Steps", "abc", slices.Repeat(one, impl.MaxList+1), code(impl.ErrSize)},
		{"more than MaxList wrong Steps", "abc", slices.Repeat(wrong, impl.MaxList+1), code(impl.ErrSize)},
		{"more than MaxList Steps, old of one byte too many", textOf(81), slices.Repeat(one, impl.MaxList+1), code(impl.ErrSize)},
		{"a Text of more than MaxBytes bytes", "abc", []impl.Step{says(textOf(impl.MaxBytes + 1))}, code(impl.ErrForm)},
	}
}

func TestStepsDo(t *testing.T) {
	for _, c := range doCases() {
		if got := impl.StepsDo(c.old, c.steps); got != c.want {
			t.Errorf("StepsDo, %s: %+v, not %+v", c.what, got, c.want)
		}
	}
}

// Steps at the edges of what they may be, of old texts of each length.
func TestStepsDoOfEachEdge(t *testing.T) {
	cases := stepsCases()
	for n := range 83 {
		old := textOf(n)
		for what, steps := range cases {
			want := impl.TextOut{Code: impl.ErrForm}
			if len(steps) > impl.MaxList {
				want.Code = impl.ErrSize
			} else if n <= 80 && stepsByOther(steps) {
				want = stepsDoByOther(old, steps)
			}
			if got := impl.StepsDo(old, steps); got != want {
				t.Fatalf("StepsDo of %d bytes, %s: %+v, not %+v", n, what, got, want)
			}
		}
		for from := int64(0); from <= 80; from++ {
			for _, many := range []int64{1, 2, int64(n) - from - 1, int64(n) - from, int64(n) - from + 1, 80} {
				if steps := []impl.Step{says("x"), takes(from, many)}; n <= 80 && stepsByOther(steps) {
					if got := impl.StepsDo(old, steps); got != stepsDoByOther(old, steps) {
						t.Fatalf("StepsDo of %d bytes, %d from %d on: %+v", n, many, from, got)
					}
				}
			}
		}
	}
}

// checkDelta asks whether what has changed of two right trees makes of the one the other one, promise 11.
func checkDelta(t *testing.T, a impl.Tree, b impl.Tree) []impl.Op {
	t.Helper()
	l := impl.DeltaOf(a, b)
	if want := deltaByOther(a, b); !sameOps(l, want) {
		t.Fatalf("DeltaOf %+v and %+v: %+v, not %+v", a, b, l, want)
	}
	if !impl.OpsRight(l) || len(l) > impl.MaxOps {
		t.Fatalf("DeltaOf %+v and %+v is not right: %+v", a, b, l)
	}
	got := impl.DeltaDo(a, l)
	if !sameTreeOut(got, impl.TreeOut{Tree: b}) || !impl.SameTree(got.Tree, b) {
		t.Fatalf("%+v make of %+v %+v, not %+v", l, a, got, b)
	}
	read := impl.OpsRead(impl.OpsBytes(l))
	if !sameOpsOut(read, impl.OpsOut{Ops: l}) || !impl.SameTree(impl.DeltaDo(a, read.Ops).Tree, b) {
		t.Fatalf("%+v come back from their bytes as %+v", l, read)
	}
	if same := len(l) == 0; same != impl.SameTree(a, b) {
		t.Fatalf("DeltaOf %+v and %+v: nothing has changed is %v", a, b, same)
	}
	return l
}

func TestKnownDeltas(t *testing.T) {
	file := func(path string, mode int64, data string) impl.File {
		return impl.File{Path: path, Mode: mode, Data: data}
	}
	tree := func(files ...impl.File) impl.Tree { return impl.Tree{Files: files} }
	for _, c := range []struct {
		what string
		a, b impl.Tree
		want []impl.Op
	}{
		{"of nothing nothing", tree(), tree(), nil},
		{"a file comes", tree(), tree(file("a", 1, "x")), []impl.Op{putOp("a", 1, "x")}},
		{"a file goes", tree(file("a", 1, "x")), tree(), []impl.Op{dropOp("a")}},
		{"a file has another Path", tree(file("a", 1, "x")), tree(file("b", 1, "x")), []impl.Op{dropOp("a"), putOp("b", 1, "x")}},
		{"a Path between others goes, one comes", tree(file("a", 1, "x"), file("c", 1, "x"), file("e", 1, "x")), tree(file("a", 1, "x"), file("b", 1, "x"), file("e", 1, "x")),
			[]impl.Op{dropOp("c"), putOp("b", 1, "x")}},
		{"the Mode alone", tree(file("a", 1, "xyz")), tree(file("a", 2, "xyz")), []impl.Op{patchOp("a", 2, takes(0, 3))}},
		{"the Mode alone, of no Data", tree(file("a", 1, "")), tree(file("a", 2, "")), []impl.Op{putOp("a", 2, "")}},
		{"the Mode becomes 0", tree(file("a", 1, "xyz")), tree(file("a", 0, "xyz")), []impl.Op{patchOp("a", 0, takes(0, 3))}},
		{"the Data alone, the first byte alike", tree(file("a", 1, "xab")), tree(file("a", 1, "xcd")), []impl.Op{patchOp("a", 1, takes(0, 1), says("cd"))}},
		{"the Data alone, the last byte alike", tree(file("a", 1, "abx")), tree(file("a", 1, "cdx")), []impl.Op{patchOp("a", 1, says("cd"), takes(2, 1))}},
		{"the Data alone, no edge alike", tree(file("a", 1, "axb")), tree(file("a", 1, "cxd")), []impl.Op{putOp("a", 1, "cxd")}},
		{"the first byte is the other one's last", tree(file("a", 1, "xa")), tree(file("a", 1, "bx")), []impl.Op{putOp("a", 1, "bx")}},
		{"Mode and Data", tree(file("a", 1, "one")), tree(file("a", 511, "one!")), []impl.Op{patchOp("a", 511, takes(0, 3), says("!"))}},
		{"Mode and Data, no edge alike", tree(file("a", 1, "one")), tree(file("a", 511, "two!")), []impl.Op{putOp("a", 511, "two!")}},
		{"the Data goes", tree(file("a", 1, "one")), tree(file("a", 1, "")), []impl.Op{putOp("a", 1, "")}},
		{"Data comes", tree(file("a", 1, "")), tree(file("a", 1, "one")), []impl.Op{putOp("a", 1, "one")}},
		{"the Data begins the other one", tree(file("a", 1, "one")), tree(file("a", 1, "o")), []impl.Op{patchOp("a", 1, takes(0, 1))}},
		{"the Data ends the other one", tree(file("a", 1, "one")), tree(file("a", 1, "e")), []impl.Op{patchOp("a", 1, takes(2, 1))}},
		{"a file becomes a folder", tree(file("a", 1, "x")), tree(file("a/b", 1, "x"), file("a/c/d", 1, "x")), []impl.Op{dropOp("a"), putOp("a/b", 1, "x"), putOp("a/c/d", 1, "x")}},
		{"a folder becomes a file", tree(file("a/b", 1, "x"), file("a/c/d", 1, "x")), tree(file("a", 1, "x")), []impl.Op{dropOp("a/b"), dropOp("a/c/d"), putOp("a", 1, "x")}},
		{"drops ahead of all else, both rising", tree(file("a", 1, "x"), file("c", 1, "x"), file("e", 1, "x")), tree(file("b", 1, "y"), file("c", 2, "x"), file("d", 1, "y")),
			[]impl.Op{dropOp("a"), dropOp("e"), putOp("b", 1, "y"), patchOp("c", 2, takes(0, 1)), putOp("d", 1, "y")}},
	} {
		if got := checkDelta(t, c.a, c.b); !sameOps(got, c.want) {
			t.Errorf("DeltaOf, %s: %+v, not %+v", c.what, got, c.want)
		}
	}
}

// otherFile is a file of that path: the old one, or one that differs in the Mode, the Data, or both, in one of some ways.
func otherFile(old impl.File, way int) impl.File {
	n := len(old.Data)
	datas := []string{old.Data, "", old.Data[:n/2] + "\x01" + old.Data[n/2:], "\x01" + old.Data + "\x01", old.Data[:n/2], old.Data[n/2:], textOf(80), strings.Repeat("\x01", 80)}
	f := impl.File{Path: old.Path, Mode: old.Mode, Data: datas[way%len(datas)]}
	if f.Data = f.Data[:min(len(f.Data), 80)]; way/len(datas)%2 == 1 {
		f.Mode = 511 - f.Mode
	}
	return f
}

// Promise 11, of all pairs of trees of some of six paths; those that both have differ in all ways.
func TestDeltasOfTheSamePaths(t *testing.T) {
	trees := treesOf([]string{"b", "d/e", "d/g/h", "f.x", "h-1", "j"}, impl.MaxFiles)
	way, most := 0, 0
	for _, a := range trees {
		for _, b := range trees {
			other := treeCopy(b)
			for i, f := range b.Files {
				other.Files[i] = otherFile(f, way)
				way += 5
			}
			most = max(most, len(checkDelta(t, a, other)))
			checkDelta(t, other, a)
			checkDelta(t, b, other)
		}
		checkDelta(t, a, a)
		checkDelta(t, a, treeCopy(a))
		checkDelta(t, otherTree(a, 11), otherTree(a, 2))
	}
	if most < impl.MaxFiles {
		t.Errorf("at most %d ops are told", most)
	}
}

// otherTree is a tree of the same paths, of which all files differ in one way.
func otherTree(t impl.Tree, way int) impl.Tree {
	other := treeCopy(t)
	for i, f := range other.Files {
		other.Files[i] = otherFile(f, way)
	}
	return other
}

// Promise 11, of all pairs of right trees of paths of which some stand ahead of a / of others.
func TestDeltasOfClosePaths(t *testing.T) {
	var right []impl.Tree
	for _, tree := range treesOf([]string{"a", "a-b", "a.b", "a/b", "a/b/c", "a/c", "b", "b/a"}, impl.MaxFiles) {
		if treeByOther(tree) {
			right = append(right, tree)
		}
	}
	if len(right) < 60 {
		t.Errorf("only %d trees are right", len(right))
	}
	for i, a := range right {
		for j, b := range right {
			checkDelta(t, a, otherTree(b, i+j))
		}
	}
}

// Promise 11, of one file: all pairs of Datas of few bytes, and of some long ones, of the same and of another Mode.
func TestDeltasOfOneFile(t *testing.T) {
	datas := []string{"", "\x00", textOf(79), textOf(80), textOf(80)[1:], "x" + textOf(79), textOf(79) + "x", strings.Repeat("s", 79), strings.Repeat("s", 80)}
	for _, x := range []string{"", "a", "b"} {
		for _, y := range []string{"", "a", "b"} {
			for _, z := range []string{"a", "b", "c"} {
				datas = append(datas, x+y+z)
			}
		}
	}
	for _, old := range datas {
		for _, data := range datas {
			for _, mode := range []int64{0, 420, 511} {
				a := impl.Tree{Files: []impl.File{{Path: "a", Mode: 420, Data: old}}}
				b := impl.Tree{Files: []impl.File{{Path: "a", Mode: mode, Data: data}}}
				checkDelta(t, a, b)
			}
		}
	}
}

// Two full trees of no path alike have as many ops as there may be.
func TestDeltasOfFullTrees(t *testing.T) {
	a, b := treeOf("a", "b", "c", "d", "e", "f"), treeOf("a/x", "b/x", "c/x", "d/x", "e/x", "f/x")
	if got := len(checkDelta(t, a, b)); got != impl.MaxOps {
		t.Errorf("DeltaOf two full trees: %d ops", got)
	}
	if got := len(checkDelta(t, otherTree(b, 6), otherTree(a, 7))); got != impl.MaxOps {
		t.Errorf("DeltaOf two full trees with all Data: %d ops", got)
	}
	for way := range 16 {
		checkDelta(t, fullTree(), otherTree(fullTree(), way))
	}
}

// Of a tree that is not right nothing is told, and nothing comes of it.
func TestDeltasOfWrongTrees(t *testing.T) {
	for _, c := range treeCases() {
		if c.right {
			checkDelta(t, c.tree, treeOf("a", "y"))
			checkDelta(t, treeOf("a", "y"), c.tree)
			continue
		}
		for _, other := range []impl.Tree{{}, treeOf("a"), fullTree(), c.tree} {
			if l := impl.DeltaOf(c.tree, other); len(l) > 0 {
				t.Errorf("DeltaOf a tree of %s and another one: %d ops", c.what, len(l))
			}
			if l := impl.DeltaOf(other, c.tree); len(l) > 0 {
				t.Errorf("DeltaOf another tree and one of %s: %d ops", c.what, len(l))
			}
		}
		for _, l := range [][]impl.Op{nil, {dropOp("a")}, {dropOp("none")}, {putOp("zz", 1, "x")}, {patchOp("a", 1)}, {{}}, slices.Repeat([]impl.Op{dropOp("a")}, impl.MaxOps+1)} {
			if got := impl.DeltaDo(c.tree, l); !sameTreeOut(got, impl.TreeOut{Code: impl.ErrForm}) {
				t.Errorf("DeltaDo of a tree of %s: the code %d", c.what, got.Code)
			}
		}
		if got := impl.DeltaDo(c.tree, make([]impl.Op, impl.MaxList+1)); !sameTreeOut(got, impl.TreeOut{Code: impl.ErrSize}) {
			t.Errorf("DeltaDo of a tree of %s, and too many ops: the code %d", c.what, got.Code)
		}
	}
}

// What DeltaDo tells of several ops: the first code that one tells, and no tree beside it.
func TestDeltaDo(t *testing.T) {
	full, file := fullTree(), impl.File{Path: "b", Mode: 7, Data: "abc"}
	one := impl.Tree{Files: []impl.File{file}}
	two := impl.Tree{Files: []impl.File{file, {Path: "c/d", Mode: 1, Data: textOf(80)}}}
	code := func(c int64) impl.TreeOut { return impl.TreeOut{Code: c} }
	only := func(files ...impl.File) impl.TreeOut { return impl.TreeOut{Tree: impl.Tree{Files: files}} }
	none, state, beyond := dropOp("z"), putOp("b/x", 1, "x"), patchOp("b", 1, takes(0, 4))
	much := patchOp("c/d", 1, takes(0, 80), takes(0, 1))
	for _, c := range []struct {
		what string
		tree impl.Tree
		ops  []impl.Op
		want impl.TreeOut
	}{
		{"nothing", one, nil, only(file)},
		{"an empty list", two, []impl.Op{}, impl.TreeOut{Tree: two}},
		{"nothing, of none", impl.Tree{}, nil, only()},
		{"a put into none", impl.Tree{}, []impl.Op{putOp("b", 7, "abc")}, only(file)},
		{"the last file goes", one, []impl.Op{dropOp("b")}, only()},
		{"a put of what is there", one, []impl.Op{putOp("b", 1, "x")}, only(impl.File{Path: "b", Mode: 1, Data: "x"})},
		{"a patch without Steps", one, []impl.Op{patchOp("b", 0)}, only(impl.File{Path: "b"})},
		{"a patch that turns", one, []impl.Op{patchOp("b", 511, takes(2, 1), says("-"), takes(0, 2))}, only(impl.File{Path: "b", Mode: 511, Data: "c-ab"})},
		{"a patch of a patch", one, []impl.Op{patchOp("b", 1, takes(0, 3), says("d")), patchOp("b", 2, takes(3, 1))}, only(impl.File{Path: "b", Mode: 2, Data: "d"})},
		{"a patch of what was put", impl.Tree{}, []impl.Op{putOp("b", 1, "xy"), patchOp("b", 2, takes(1, 1))}, only(impl.File{Path: "b", Mode: 2, Data: "y"})},
		{"a put of what was dropped", one, []impl.Op{dropOp("b"), putOp("b", 1, "")}, only(impl.File{Path: "b", Mode: 1})},
		{"a put under what was dropped", one, []impl.Op{dropOp("b"), putOp("b/c", 1, "")}, only(impl.File{Path: "b/c", Mode: 1})},
		{"a put under what is then dropped", one, []impl.Op{putOp("b/c", 1, ""), dropOp("b")}, code(impl.ErrState)},
		{"a put of what stands ahead of a /", two, []impl.Op{putOp("c", 1, "")}, code(impl.ErrState)},
		{"a drop of what is not there", one, []impl.Op{none}, code(impl.ErrNone)},
		{"a drop of what was dropped", one, []impl.Op{dropOp("b"), dropOp("b")}, code(impl.ErrNone)},
		{"a drop of a folder", two, []impl.Op{dropOp("c")}, code(impl.ErrNone)},
		{"a patch of what is not there", one, []impl.Op{patchOp("z", 1)}, code(impl.ErrNone)},
		{"a patch of a folder", two, []impl.Op{patchOp("c", 1)}, code(impl.ErrNone)},
		{"a patch of what was dropped", one, []impl.Op{dropOp("b"), patchOp("b", 1)}, code(impl.ErrNone)},
		{"a patch of none, beyond the end and of too many bytes", impl.Tree{}, []impl.Op{patchOp("b", 1, takes(0, 80), says(textOf(80)))}, code(impl.ErrNone)},
		{"a patch beyond the end", one, []impl.Op{beyond}, code(impl.ErrRange)},
		{"a patch of too many bytes", two, []impl.Op{much}, code(impl.ErrFull)},
		{"a patch beyond the end of what was shortened", one, []impl.Op{patchOp("b", 1, takes(0, 2)), patchOp("b", 1, takes(0, 3))}, code(impl.ErrRange)},
		{"a put into the full tree", full, []impl.Op{putOp("c", 1, "")}, code(impl.ErrFull)},
		{"a put into the full tree ahead of a drop", full, []impl.Op{putOp("c", 1, ""), dropOp("b")}, code(impl.ErrFull)},
		{"a patch and a put into the full tree, of its own paths", impl.Tree{Files: append(slices.Clone(full.Files[:5]), impl.File{Path: "j", Data: "jj"})},
			[]impl.Op{patchOp("j", 3, takes(0, 1)), putOp("j", full.Files[5].Mode, full.Files[5].Data)}, impl.TreeOut{Tree: full}},
		{"none, state", two, []impl.Op{none, state}, code(impl.ErrNone)},
		{"state, none", two, []impl.Op{state, none}, code(impl.ErrState)},
		{"none, beyond", two, []impl.Op{none, beyond}, code(impl.ErrNone)},
		{"beyond, none", two, []impl.Op{beyond, none}, code(impl.ErrRange)},
		{"beyond, much", two, []impl.Op{beyond, much}, code(impl.ErrRange)},
		{"much, beyond", two, []impl.Op{much, beyond}, code(impl.ErrFull)},
		{"much, state", two, []impl.Op{much, state}, code(impl.ErrFull)},
		{"state, much", two, []impl.Op{state, much}, code(impl.ErrState)},
		{"a put that goes, and then beyond and none", two, []impl.Op{putOp("e", 1, "x"), beyond, none}, code(impl.ErrRange)},
		{"none, and then a put that goes", two, []impl.Op{none, putOp("e", 1, "x")}, code(impl.ErrNone)},
		{"none, and a wrong op behind it", two, []impl.Op{none, {}}, code(impl.ErrForm)},
		{"a put that goes, and a wrong op behind it", two, []impl.Op{putOp("e", 1, "x"), dropOp("..")}, code(impl.ErrForm)},
		{"none, MaxOps times", two, slices.Repeat([]impl.Op{none}, impl.MaxOps), code(impl.ErrNone)},
		{"none, once more", two, slices.Repeat([]impl.Op{none}, impl.MaxOps+1), code(impl.ErrForm)},
		{"MaxOps puts", impl.Tree{}, slices.Repeat([]impl.Op{putOp("b", 7, "abc")}, impl.MaxOps), only(file)},
		{"one put more", impl.Tree{}, slices.Repeat([]impl.Op{putOp("b", 7, "abc")}, impl.MaxOps+1), code(impl.ErrForm)},
		{"MaxList ops", two, slices.Repeat([]impl.Op{none}, impl.MaxList), code(impl.ErrForm)},
		{"more than MaxList ops", two, slices.Repeat([]impl.Op{none}, impl.MaxList+1), code(impl.ErrSize)},
	} {
		if got := impl.DeltaDo(c.tree, c.ops); !sameTreeOut(got, c.want) {
			t.Errorf("DeltaDo, %s: %+v, not %+v", c.what, got, c.want)
		}
	}
}

// Many trees and ops, of which some tell a code, one after the other.
func TestManyDeltas(t *testing.T) {
	paths := []string{"a", "a/b", "a/b/c", "b", "c", "c/d", "d", "e", "f", "g"}
	tree, seed := impl.Tree{}, uint64(1)
	next := func(n int) int {
		seed = seed*6364136223846793005 + 1442695040888963407
		return int(seed>>33) % n
	}
	steps := func() []impl.Step {
		var l []impl.Step
		for range next(4) {
			l = append(l, []impl.Step{says(textOf(next(50) + 1)), takes(int64(next(10)), int64(next(50)+1)), takes(0, 1)}[next(3)])
		}
		return l
	}
	codes := map[int64]int{}
	for step := range 8000 {
		var l []impl.Op
		for range next(4) {
			path, mode := paths[next(len(paths))], int64(next(512))
			l = append(l, []impl.Op{putOp(path, mode, textOf(next(81))), putOp(path, mode, ""), dropOp(path), patchOp(path, mode, steps()...), patchOp(path, mode)}[next(5)])
		}
		got, want := impl.DeltaDo(tree, l), deltaDoByOther(tree, l)
		if !sameTreeOut(got, want) {
			t.Fatalf("step %d: %+v of %+v: %+v, not %+v", step, l, tree, got, want)
		}
		if codes[got.Code]++; got.Code == impl.OK {
			checkDelta(t, tree, got.Tree)
			checkDelta(t, got.Tree, tree)
			tree = got.Tree
		}
	}
	for _, code := range []int64{impl.OK, impl.ErrNone, impl.ErrRange, impl.ErrFull, impl.ErrState} {
		if codes[code] < 20 {
			t.Errorf("only %d times the code %d", codes[code], code)
		}
	}
}

// someOps are right ops of each kind, with all of their fields.
func someOps() []impl.Op {
	return []impl.Op{patchOp("bb", 420, takes(64, 80), says("two words"), takes(80, 1)), dropOp("dd/ee"), putOp("ff.xx", 511, "some data"), patchOp("dd/gg/hh", 1, says("said"), takes(0, 70))}
}

// opsFaults are texts that are no ops, in the order of the faults.
func opsFaults() []frameFault {
	text, one := opsBytesByOther(someOps()), "\x02\x06\x02a\x02\x00\x02\x00\x02\x00"
	put := opsBytesByOther([]impl.Op{putOp("a", 1, "one")})
	l := []frameFault{
		{"more than MaxBytes bytes", textOf(impl.MaxBytes + 1), impl.ErrSize},
		{"more than MaxBytes bytes, ops ahead", text + textOf(impl.MaxBytes+1-len(text)), impl.ErrSize},
		{"more than MaxBytes bytes, no number", strings.Repeat("\x80", impl.MaxBytes+1), impl.ErrSize},
		{"MaxBytes bytes", textOf(impl.MaxBytes), impl.ErrSyntax},
		{"MaxBytes bytes, ops ahead", text + textOf(impl.MaxBytes-len(text)), impl.ErrSyntax},
		{"MaxBytes bytes 0", strings.Repeat("\x00", impl.MaxBytes), impl.ErrSyntax},
		{"nothing", "", impl.ErrSyntax},
		{"no op, and a byte left", "\x00\x00", impl.ErrSyntax},
		{"-1 ops", "\x01", impl.ErrSyntax},
		{"-1 ops, and one op", "\x01" + one[1:], impl.ErrSyntax},
		{"no ops, and one op", "\x00" + one[1:], impl.ErrSyntax},
		{"two ops, and one op", "\x04" + one[1:], impl.ErrSyntax},
		{"no number", "\x80", impl.ErrSyntax},
		{"no ops in two bytes", "\x80\x00", impl.ErrSyntax},
		{"one op in two bytes", longNum(1) + one[1:], impl.ErrSyntax},
		{"one op and a byte 0", one + "\x00", impl.ErrSyntax},
		{"one op and a byte 128", one + "\x80", impl.ErrSyntax},
		{"one op twice", one + one, impl.ErrSyntax},
		{"one op behind a byte", "\x00" + one, impl.ErrSyntax},
		{"a Kind in two bytes", "\x02" + longNum(3) + "\x02a\x02\x00\x02\x00\x02\x00", impl.ErrSyntax},
		{"a Path's length in two bytes", "\x02\x06" + longNum(1) + "a\x02\x00\x02\x00\x02\x00", impl.ErrSyntax},
		{"a Mode in two bytes", "\x02\x06\x02a" + longNum(1) + "\x00\x02\x00\x02\x00", impl.ErrSyntax},
		{"a Data's length in two bytes", "\x02\x06\x02a\x02\x80\x00\x02\x00\x02\x00", impl.ErrSyntax},
		{"how many Steps in two bytes", "\x02\x06\x02a\x02\x00" + longNum(1) + "\x00\x02\x00", impl.ErrSyntax},
		{"a From in two bytes", "\x02\x06\x02a\x02\x00\x02\x80\x00\x02\x00", impl.ErrSyntax},
		{"a Many in two bytes", "\x02\x06\x02a\x02\x00\x02\x00" + longNum(1) + "\x00", impl.ErrSyntax},
		{"a Text's length in two bytes", "\x02\x06\x02a\x02\x00\x02\x00\x02\x80\x00", impl.ErrSyntax},
		{"-1 Steps", "\x02\x06\x02a\x02\x00\x01\x00\x02\x00", impl.ErrSyntax},
		{"-1 Steps, and none", "\x02\x06\x02a\x02\x00\x01", impl.ErrSyntax},
		{"no Steps, and one", "\x02\x06\x02a\x02\x00\x00\x00\x02\x00", impl.ErrSyntax},
		{"two Steps, and one", "\x02\x06\x02a\x02\x00\x04\x00\x02\x00", impl.ErrSyntax},
		{"a Data's length below 0", strings.Replace(put, "\x06one", "\x01one", 1), impl.ErrSyntax},
		{"a Data's length of more than there is", strings.Replace(put, "\x06one", "\x0cone", 1), impl.ErrSyntax},
		{"a Data's length of less than there is", strings.Replace(put, "\x06one", "\x04one", 1), impl.ErrSyntax},
		{"a Data's length of more than MaxBytes", strings.Replace(put, "\x06one", varints(impl.MaxBytes+1)+"one", 1), impl.ErrSyntax},
		{"sealed ops", sealedByOther(one), impl.ErrSyntax},
		{"thirteen ops, twelve told", "\x18" + strings.Repeat(one[1:], 13), impl.ErrSyntax},
		{"twelve ops, thirteen told", "\x1a" + strings.Repeat(one[1:], 12), impl.ErrSyntax},
		{"thirteen ops, thirteen told", "\x1a" + strings.Repeat(one[1:], 13), impl.ErrSyntax},
	}
	for _, n := range []int64{math.MinInt64, -1 << 32, 1 << 32, 1<<32 + 1, math.MaxInt64} {
		l = append(l, frameFault{fmt.Sprintf("%d ops", n), varints(n) + one[1:], impl.ErrSyntax})
		l = append(l, frameFault{fmt.Sprintf("%d Steps", n), "\x02\x06\x02a\x02\x00" + varints(n) + "\x00\x02\x00", impl.ErrSyntax})
	}
	for most := range len(text) {
		l = append(l, frameFault{fmt.Sprintf("the first %d bytes", most), text[:most], impl.ErrSyntax})
		l = append(l, frameFault{fmt.Sprintf("the first %d bytes, and bytes 0", most), text[:most] + strings.Repeat("\x00", len(text)), impl.ErrSyntax})
	}
	for from := 1; from < len(text); from++ {
		if text[from:] != "\x00" {
			l = append(l, frameFault{fmt.Sprintf("the bytes from %d on", from), text[from:], impl.ErrSyntax})
		}
	}
	return l
}

func TestOpsReadFaults(t *testing.T) {
	for _, c := range opsFaults() {
		if got := impl.OpsRead(c.text); !sameOpsOut(got, impl.OpsOut{Code: c.code}) {
			t.Errorf("OpsRead of %s: %+v, not the code %d", c.what, got, c.code)
		}
	}
}

// Each byte of ops turned: what is then read has these bytes, or is refused.
func TestTurnedOps(t *testing.T) {
	text := opsBytesByOther(someOps())
	read, refused := 0, 0
	for at := range len(text) {
		for by := 1; by < 256; by++ {
			other := turned(text, at, byte(by))
			got := impl.OpsRead(other)
			if sameOpsOut(got, impl.OpsOut{Code: impl.ErrSyntax}) {
				refused++
				continue
			}
			read++
			if got.Code != impl.OK || slices.ContainsFunc(got.Ops, func(o impl.Op) bool { return !opByOther(o) }) || opsBytesByOther(got.Ops) != other || sameOps(got.Ops, someOps()) {
				t.Fatalf("turned at %d by %d: %+v", at, by, got)
			}
		}
	}
	if read == 0 || refused == 0 {
		t.Errorf("%d turned ops are read, and %d refused", read, refused)
	}
}

// textsOfOps are all the texts of ops.
func textsOfOps(l []impl.Op) []string {
	var texts []string
	for _, o := range l {
		texts = append(texts, o.Path, o.Data)
		for _, s := range o.Steps {
			texts = append(texts, s.Text)
		}
	}
	return texts
}

// deltaPair are two trees of which all kinds of ops come, with Steps that say something and with Data.
func deltaPair() (impl.Tree, impl.Tree) {
	a := impl.Tree{Files: []impl.File{{Path: "bb", Mode: 1, Data: "one two"}, {Path: "cc", Mode: 1, Data: "abc"}, {Path: "dd", Mode: 1, Data: "abc"}, {Path: "ee", Mode: 1, Data: "xyz"}, {Path: "gone", Mode: 1}}}
	b := impl.Tree{Files: []impl.File{{Path: "bb", Mode: 1, Data: "one and two"}, {Path: "cc", Mode: 2, Data: "abcdef"}, {Path: "dd", Mode: 1, Data: "defgh"}, {Path: "ee", Mode: 1, Data: "xyz"}, {Path: "new", Mode: 1, Data: "data"}}}
	return a, b
}

// No answer lies where an argument or another answer does.
func TestDeltasShareNothing(t *testing.T) {
	a, b := deltaPair()
	texts := append(textsOfTree(a), textsOfTree(b)...)
	one, two := impl.DeltaOf(a, b), impl.DeltaOf(a, b)
	checkUnshared(t, "DeltaOf", texts, textsOfOps(one), textsOfOps(two))
	done, again := impl.DeltaDo(a, one).Tree, impl.DeltaDo(a, one).Tree
	checkUnshared(t, "DeltaDo", texts, textsOfOps(one), textsOfTree(done), textsOfTree(again))
	checkUnshared(t, "DeltaDo of nothing", texts, textsOfTree(impl.DeltaDo(a, nil).Tree), textsOfTree(impl.DeltaDo(a, nil).Tree))
	text := impl.OpsBytes(one)
	checkUnshared(t, "read", []string{text}, textsOfOps(one), textsOfOps(impl.OpsRead(text).Ops), textsOfOps(impl.OpsRead(text).Ops), []string{impl.OpsBytes(one)})
	old, whole := strings.Clone("one two"), strings.Clone("said")
	steps := func(l []impl.Step) []string { return textsOfOps([]impl.Op{{Steps: l}}) }
	checkUnshared(t, "StepsOf", []string{old, whole}, steps(impl.StepsOf(old, whole)), steps(impl.StepsOf(old, whole)))
	checkUnshared(t, "StepsOf of nothing", []string{old, whole}, steps(impl.StepsOf("", whole)), steps(impl.StepsOf("", whole)))
	for _, l := range [][]impl.Step{{takes(0, 7)}, {says(whole)}, {takes(0, 3), says(whole), takes(3, 4)}} {
		checkUnshared(t, "StepsDo", []string{old, whole}, []string{impl.StepsDo(old, l).Text}, []string{impl.StepsDo(old, l).Text})
	}
}

// scribbleSteps and scribbleOps write over all that can be reached, even behind the end of a list.
func scribbleSteps(l []impl.Step) {
	l = l[:cap(l)]
	for i := range l {
		l[i] = impl.Step{From: 99, Many: 99, Text: "scribbled"}
	}
}

func scribbleOps(l []impl.Op) {
	l = l[:cap(l)]
	for i := range l {
		scribbleSteps(l[i].Steps)
		l[i] = impl.Op{Kind: 99, Path: "scribbled"}
	}
}

// No two lists of one answer lie in the same memory, not even behind their ends.
func TestListsOfOpsAreApart(t *testing.T) {
	a, b := deltaPair()
	ops := append(someOps(), patchOp("z", 1), patchOp("zz", 1, says("z")))
	text := impl.OpsBytes(ops)
	for what, answer := range map[string]func() []impl.Op{
		"DeltaOf": func() []impl.Op { return impl.DeltaOf(a, b) },
		"OpsRead": func() []impl.Op { return impl.OpsRead(text).Ops },
	} {
		want := answer()
		for i := range want {
			got := answer()
			scribbleSteps(got[i].Steps)
			for j := range got {
				if j != i && !sameOps(got[j:j+1], want[j:j+1]) {
					t.Errorf("%s: the Steps of the ops %d and %d lie in the same memory", what, i, j)
				}
			}
		}
	}
}

// What is handed in is not changed, not even behind the end of its lists, and what is handed back is not kept.
func TestDeltasHandedInAreNotChanged(t *testing.T) {
	a, b := deltaPair()
	files, others := append(slices.Clone(a.Files), impl.File{Path: "spare"}), append(slices.Clone(b.Files), impl.File{Path: "spare"})
	keptFiles, keptOthers := slices.Clone(files), slices.Clone(others)
	from, to := impl.Tree{Files: files[:len(a.Files)]}, impl.Tree{Files: others[:len(b.Files)]}
	ops := impl.DeltaOf(a, b)
	spare := append(opsCopy(ops), impl.Op{Path: "spare"})
	for i := range spare {
		spare[i].Steps = append(slices.Clone(spare[i].Steps), says("spare"))[:len(spare[i].Steps)]
	}
	text := impl.OpsBytes(ops)
	for range 2 {
		scribbleOps(impl.DeltaOf(from, to))
		scribbleTree(impl.DeltaDo(from, spare[:len(ops)]).Tree)
		scribbleTree(impl.DeltaDo(from, nil).Tree)
		scribbleTree(impl.DeltaDo(to, spare[:len(ops)]).Tree)
		scribbleOps(impl.OpsRead(text).Ops)
		scribbleSteps(impl.StepsOf("one two", "one and two"))
		impl.OpsRight(spare[:len(ops)])
		impl.OpsBytes(spare[:len(ops)])
		for _, o := range spare {
			impl.StepsDo("one two", o.Steps)
		}
		if !slices.Equal(files, keptFiles) || !slices.Equal(others, keptOthers) {
			t.Fatal("a tree that was handed in has changed")
		}
		if !sameOps(spare, append(opsCopy(ops), impl.Op{Path: "spare"})) {
			t.Fatal("ops that were handed in have changed")
		}
		for i, o := range spare {
			if o.Steps[:len(o.Steps)+1][len(o.Steps)] != says("spare") {
				t.Fatalf("the op %d has changed behind the end of its Steps", i)
			}
		}
		checkDelta(t, from, to)
		if !sameOps(impl.OpsRead(text).Ops, ops) || len(impl.StepsOf("one two", "one and two")) != 3 {
			t.Fatal("what was handed back is kept")
		}
	}
}
