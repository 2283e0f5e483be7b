package tests

import (
	"fmt"
	"math"
	"regexp"
	"slices"
	"strconv"
	"strings"
	"testing"

	"loop.example/g00181/impl"
)

// objectsFrom reads "1=7(5,-1;2,3) 2=1(;)": the objects that are there, as texts.
func objectsFrom(text string) []impl.Slot {
	v := make([]impl.Slot, impl.MaxOid+1)
	for _, word := range strings.Fields(text) {
		name, body, _ := strings.Cut(word, "=")
		oid, err := strconv.Atoi(name)
		o, ok := impl.ParseObj(body)
		if err != nil || !ok {
			panic("no object: " + word)
		}
		v[oid] = impl.Slot{Has: true, O: o}
	}
	return v
}

// objectsText is objectsFrom back.
func objectsText(v []impl.Slot) string {
	var words []string
	for oid, s := range v {
		if s.Has {
			words = append(words, fmt.Sprint(oid, "=", plainText(s.O)))
		}
	}
	return strings.Join(words, " ")
}

func pathOf(from int, steps ...impl.PathStep) impl.Path { return impl.Path{From: from, Steps: steps} }
func stepOf(kind int, n int) impl.PathStep              { return impl.PathStep{Kind: kind, N: n} }
func refStep(n int) impl.PathStep                       { return stepOf(impl.StepRef, n) }
func kindStep(n int) impl.PathStep                      { return stepOf(impl.StepKind, n) }
func overStep(n int) impl.PathStep                      { return stepOf(impl.StepOver, n) }

var allStep, deepStep = stepOf(impl.StepAll, 0), stepOf(impl.StepDeep, 0)

func samePaths(a impl.Path, b impl.Path) bool {
	return a.From == b.From && slices.Equal(a.Steps, b.Steps)
}

func isZeroPath(p impl.Path) bool { return samePaths(p, impl.Path{}) }

// What follows, to plainEval, is the chapter once more, by other means: what the calls are held against.

// stepEdges are the least and the greatest N of each kind of step.
var stepEdges = map[int][2]int{
	impl.StepRef: {0, 9}, impl.StepAll: {0, 0}, impl.StepDeep: {0, 0}, impl.StepKind: {1, 99}, impl.StepOver: {-mostPart, mostPart},
}

func plainPathOk(p impl.Path) bool {
	ok := p.From > 0 && p.From < 32 && len(p.Steps) < 9
	for _, s := range p.Steps {
		edges, is := stepEdges[s.Kind]
		ok = ok && is && s.N >= edges[0] && s.N <= edges[1]
	}
	return ok
}

var stepForms = map[int]string{impl.StepRef: ".%d", impl.StepAll: ".*", impl.StepDeep: ".**", impl.StepKind: "[k=%d]", impl.StepOver: "[i>%d]"}

// plainPathText writes wrong paths, too.
func plainPathText(p impl.Path) string {
	out := strconv.Itoa(p.From)
	for _, s := range p.Steps {
		out += strings.ReplaceAll(stepForms[s.Kind], "%d", strconv.Itoa(s.N))
	}
	return out
}

// pathForm has all limits in it but the least and the greatest N of a StepOver that has seven digits, which is 10^6.
var pathForm = regexp.MustCompile(`^(?:[1-9]|[12][0-9]|3[01])(?:\.[0-9]|\.\*\*?|\[k=[1-9][0-9]?\]|\[i>(?:0|-?[1-9][0-9]{0,5}|-?1000000)\]){0,8}$`)

var stepForm = regexp.MustCompile(`\.([0-9])|(\.\*\*)|(\.\*)|\[k=([0-9]+)\]|\[i>(-?[0-9]+)\]`)

func plainParsePath(s string) (impl.Path, bool) {
	if !pathForm.MatchString(s) {
		return impl.Path{}, false
	}
	head := strings.FieldsFunc(s, func(r rune) bool { return r == '.' || r == '[' })[0]
	from, _ := strconv.Atoi(head)
	p := pathOf(from)
	for _, m := range stepForm.FindAllStringSubmatch(s, -1) {
		for i, kind := range []int{impl.StepRef, impl.StepDeep, impl.StepAll, impl.StepKind, impl.StepOver} {
			if m[i+1] != "" {
				n, _ := strconv.Atoi(m[i+1])
				p.Steps = append(p.Steps, stepOf(kind, n))
			}
		}
	}
	return p, true
}

// plainLeads are the Oids to which a step leads from an object that is there, as it names them.
func plainLeads(v []impl.Slot, s impl.PathStep, oid int) []int {
	o := v[oid].O
	switch {
	case s.Kind == impl.StepRef && s.N < len(o.Refs):
		return []int{o.Refs[s.N]}
	case s.Kind == impl.StepAll:
		return o.Refs
	case s.Kind == impl.StepDeep:
		return plainReach(v, oid)
	case s.Kind == impl.StepKind && o.Kind == s.N, s.Kind == impl.StepOver && len(o.Ints) > 0 && slices.Max(o.Ints) > s.N:
		return []int{oid}
	}
	return nil
}

// plainEval has a mark for each Oid, and makes of them the next ones, step by step.
func plainEval(v []impl.Slot, p impl.Path) []int {
	var here [32]bool
	if !plainViewOk(v) || !plainPathOk(p) {
		return nil
	}
	here[p.From] = v[p.From].Has
	for _, s := range p.Steps {
		var next [32]bool
		for oid := range here {
			if here[oid] {
				for _, to := range plainLeads(v, s, oid) {
					next[to] = v[to].Has
				}
			}
		}
		here = next
	}
	var out []int
	for oid, is := range here {
		if is {
			out = append(out, oid)
		}
	}
	return out
}

// checkEval holds what comes of a path against promise 12, and against the chapter.
func checkEval(t *testing.T, v []impl.Slot, p impl.Path) []int {
	t.Helper()
	view, steps := deepView(v), slices.Clone(p.Steps)
	got := impl.Eval(v, p)
	reached := plainReach(v, p.From)
	for i, oid := range got {
		if oid < 1 || oid > 31 || !v[oid].Has || !slices.Contains(reached, oid) {
			t.Fatalf("%s of %s: %v; %d is not there, or not reached", plainPathText(p), objectsText(v), got, oid)
		}
		if i > 0 && got[i-1] >= oid {
			t.Fatalf("%s of %s: %v is not ascending", plainPathText(p), objectsText(v), got)
		}
	}
	if want := plainEval(v, p); !slices.Equal(got, want) {
		t.Fatalf("%s of %s: %v, must be %v", plainPathText(p), objectsText(v), got, want)
	}
	if !sameViews(v, view) || !slices.Equal(p.Steps, steps) {
		t.Fatalf("%s: an argument was written into", plainPathText(p))
	}
	return got
}

func checkPathText(t *testing.T, p impl.Path) {
	t.Helper()
	text := impl.PathText(p)
	if want := plainPathText(p); !impl.PathOk(p) || text != want {
		t.Fatalf("PathText of %v: %q, must be %q", p, text, want)
	}
	if got, ok := impl.ParsePath(text); !ok || !samePaths(got, p) {
		t.Fatalf("ParsePath of %q: %v %v, must be %v", text, got, ok, p)
	}
}

func checkParsePath(t *testing.T, s string) bool {
	t.Helper()
	got, ok := impl.ParsePath(s)
	want, is := plainParsePath(s)
	if ok != is || !samePaths(got, want) {
		t.Fatalf("ParsePath of %q: %v %v, must be %v %v", s, got, ok, want, is)
	}
	if ok && (!impl.PathOk(got) || impl.PathText(got) != s) {
		t.Fatalf("ParsePath of %q: %v, whose text is %q", s, got, impl.PathText(got))
	}
	return ok
}

// sampleSteps are the edges of each kind of step, and some within.
func sampleSteps() []impl.PathStep {
	return []impl.PathStep{
		refStep(0), refStep(4), refStep(9), allStep, deepStep, kindStep(1), kindStep(10), kindStep(99),
		overStep(0), overStep(-1), overStep(9), overStep(mostPart), overStep(-mostPart),
	}
}

// wrongSteps are one beyond each edge, and far beyond it, and of kinds that are none.
func wrongSteps() []impl.PathStep {
	far := []int{math.MaxInt64, math.MinInt64, 1 << 32, -1 << 32}
	var out []impl.PathStep
	for kind := impl.StepRef; kind <= impl.StepOver; kind++ {
		edges := stepEdges[kind]
		for _, n := range append(far, edges[0]-1, edges[0]-2, edges[1]+1, edges[1]+2, -impl.MaxInt, impl.MaxInt) {
			out = append(out, stepOf(kind, n))
		}
	}
	for _, kind := range append(far, 0, -1, -2, -5, 6, 7, 10, 257, 261) {
		for _, n := range []int{0, 1, 5} {
			out = append(out, stepOf(kind, n))
		}
	}
	return out
}

// samplePaths are of no step, of each one, of each two, and of MaxSteps of one kind.
func samplePaths() []impl.Path {
	var out []impl.Path
	for _, from := range []int{1, 2, 9, 10, 30, impl.MaxOid} {
		out = append(out, pathOf(from), impl.Path{From: from, Steps: []impl.PathStep{}})
		for _, first := range sampleSteps() {
			out = append(out, pathOf(from, first), pathOf(from, slices.Repeat([]impl.PathStep{first}, impl.MaxSteps)...))
			for _, second := range sampleSteps() {
				out = append(out, pathOf(from, first, second))
			}
		}
	}
	return out
}

// wrongPaths have one thing that is not right.
func wrongPaths() []impl.Path {
	var out []impl.Path
	for _, from := range wrongOids {
		out = append(out, pathOf(from), pathOf(from, deepStep), pathOf(from, refStep(0), allStep))
	}
	for _, wrong := range wrongSteps() {
		out = append(out, pathOf(1, wrong))
		for at := range impl.MaxSteps {
			steps := slices.Repeat([]impl.PathStep{deepStep}, impl.MaxSteps)
			steps[at] = wrong
			out = append(out, pathOf(2, steps...), pathOf(2, steps[at:]...))
		}
	}
	for _, right := range sampleSteps() {
		for _, count := range []int{impl.MaxSteps + 1, impl.MaxSteps + 2, 2 * impl.MaxSteps, 300} {
			out = append(out, pathOf(1, slices.Repeat([]impl.PathStep{right}, count)...))
		}
	}
	return append(out, impl.Path{})
}

func TestPathLimits(t *testing.T) {
	if impl.MaxSteps != 8 {
		t.Errorf("at most %d steps", impl.MaxSteps)
	}
	if kinds := []int{impl.StepRef, impl.StepAll, impl.StepDeep, impl.StepKind, impl.StepOver}; !slices.Equal(kinds, []int{1, 2, 3, 4, 5}) {
		t.Errorf("the kinds of steps: %v", kinds)
	}
	for from := -70; from <= 70; from++ {
		if got := impl.PathOk(pathOf(from)); got != (from >= 1 && from <= 31) {
			t.Errorf("from %d: %v", from, got)
		}
	}
	for count := range 20 {
		for _, s := range sampleSteps() {
			if got := impl.PathOk(pathOf(1, slices.Repeat([]impl.PathStep{s}, count)...)); got != (count <= 8) {
				t.Errorf("%d steps %v: %v", count, s, got)
			}
		}
	}
	for _, p := range samplePaths() {
		if !impl.PathOk(p) {
			t.Errorf("%v is a path", p)
		}
	}
	for _, p := range wrongPaths() {
		if impl.PathOk(p) {
			t.Errorf("%v is no path", p)
		}
	}
}

func TestPathStepLimits(t *testing.T) {
	for kind := -10; kind <= 20; kind++ {
		edges, is := stepEdges[kind]
		for n := -200; n <= 200; n++ {
			if got := impl.PathOk(pathOf(1, stepOf(kind, n))); got != (is && n >= edges[0] && n <= edges[1]) {
				t.Errorf("a step of kind %d with %d: %v", kind, n, got)
			}
		}
		for _, n := range []int{mostPart - 1, mostPart, mostPart + 1} {
			for _, n := range []int{n, -n} {
				if got := impl.PathOk(pathOf(1, stepOf(kind, n))); got != (kind == impl.StepOver && n >= -mostPart && n <= mostPart) {
					t.Errorf("a step of kind %d with %d: %v", kind, n, got)
				}
			}
		}
	}
}

func TestPathTextForms(t *testing.T) {
	for _, x := range []struct {
		p    impl.Path
		want string
	}{
		{pathOf(1), "1"},
		{pathOf(31), "31"},
		{pathOf(10), "10"},
		{pathOf(1, refStep(0)), "1.0"},
		{pathOf(1, refStep(9)), "1.9"},
		{pathOf(1, allStep), "1.*"},
		{pathOf(1, deepStep), "1.**"},
		{pathOf(1, kindStep(1)), "1[k=1]"},
		{pathOf(1, kindStep(99)), "1[k=99]"},
		{pathOf(1, overStep(0)), "1[i>0]"},
		{pathOf(1, overStep(-7)), "1[i>-7]"},
		{pathOf(1, overStep(mostPart)), "1[i>1000000]"},
		{pathOf(1, overStep(-mostPart)), "1[i>-1000000]"},
		{pathOf(1, allStep, allStep), "1.*.*"},
		{pathOf(1, allStep, deepStep), "1.*.**"},
		{pathOf(1, deepStep, allStep), "1.**.*"},
		{pathOf(12, refStep(3), kindStep(4), refStep(5)), "12.3[k=4].5"},
		{pathOf(7, kindStep(2), overStep(-3), deepStep, refStep(0), allStep), "7[k=2][i>-3].**.0.*"},
		{pathOf(1, refStep(1), refStep(2), refStep(3), refStep(4), refStep(5), refStep(6), refStep(7), refStep(8)), "1.1.2.3.4.5.6.7.8"},
		{pathOf(31, slices.Repeat([]impl.PathStep{overStep(-mostPart)}, 8)...), "31" + strings.Repeat("[i>-1000000]", 8)},
	} {
		if got := impl.PathText(x.p); got != x.want {
			t.Errorf("PathText of %v: %q, must be %q", x.p, got, x.want)
		}
		if got, ok := impl.ParsePath(x.want); !ok || !samePaths(got, x.p) {
			t.Errorf("ParsePath of %q: %v %v, must be %v", x.want, got, ok, x.p)
		}
	}
}

// chancePath has steps of each kind, most of them such that something comes of them.
func chancePath(r *turns) impl.Path {
	p := pathOf(1 + r.below(31))
	all := sampleSteps()
	for range r.below(impl.MaxSteps + 1) {
		steps := []impl.PathStep{refStep(r.below(3)), allStep, allStep, allStep, deepStep, deepStep, kindStep(1 + r.below(3)), overStep(r.below(8) - 7), overStep(-5)}
		if r.below(12) == 0 {
			steps = all
		}
		p.Steps = append(p.Steps, steps[r.below(len(steps))])
	}
	return p
}

func TestPathsComeBackOfTheirTexts(t *testing.T) {
	for _, p := range samplePaths() {
		checkPathText(t, p)
	}
	r := &turns{12}
	for range 3000 {
		checkPathText(t, chancePath(r))
	}
	for from := 1; from <= impl.MaxOid; from++ {
		for n := range 10 {
			checkPathText(t, pathOf(from, refStep(n)))
		}
		for n := 1; n < 100; n++ {
			checkPathText(t, pathOf(from, kindStep(n)))
		}
		for n := -150; n < 150; n++ {
			checkPathText(t, pathOf(from, overStep(n)))
		}
	}
}

func TestNothingOfWhatIsNoPath(t *testing.T) {
	v := objectsFrom("1=1(5;1,2) 2=2(-1;2,1)")
	for _, p := range wrongPaths() {
		steps := slices.Clone(p.Steps)
		if text := impl.PathText(p); text != "" {
			t.Errorf("PathText of %v: %q", p, text)
		}
		if got := impl.Eval(v, p); len(got) != 0 {
			t.Errorf("%v: %v", p, got)
		}
		if !slices.Equal(p.Steps, steps) {
			t.Errorf("%v was made of %v", p.Steps, steps)
		}
		// A step that has no N in its text, or no text at all, makes a right one of a wrong path.
		named := !slices.ContainsFunc(p.Steps, func(s impl.PathStep) bool {
			return !strings.Contains(stepForms[s.Kind], "%d") && s != allStep && s != deepStep
		})
		if got, ok := impl.ParsePath(plainPathText(p)); named && (ok || !isZeroPath(got)) {
			t.Errorf("ParsePath of %q: %v %v", plainPathText(p), got, ok)
		}
	}
}

func TestParsePathRefuses(t *testing.T) {
	for _, x := range []struct{ why, s string }{
		{"nothing", ""}, {"a blank", " "}, {"a blank ahead", " 1"}, {"a blank behind", "1 "}, {"a blank within", "1 .0"}, {"a line's end", "1\n"}, {"a byte 0", "1\x00"},
		{"no From", ".0"}, {"no From, all", ".*"}, {"no From, of a kind", "[k=1]"}, {"From is no number", "x"}, {"From is no number, with a step", "x.0"}, {"a star as From", "*"},
		{"From 0", "0"}, {"From -0", "-0"}, {"From 32", "32"}, {"From 40", "40"}, {"From 99", "99"}, {"From 100", "100"}, {"From -1", "-1"}, {"From -1 with a step", "-1.0"}, {"From 0 with a step", "0.0"}, {"From 32 with a step", "32.**"},
		{"a nought ahead", "01"}, {"noughts ahead", "0031"}, {"a nought alone ahead of a step", "00.0"}, {"a plus ahead", "+1"}, {"a minus alone", "-"}, {"a plus alone", "+"}, {"two minuses", "--1"},
		{"another base", "0x1"}, {"with a line below", "1_0"}, {"an exponent", "1e0"}, {"digits of another script", "١"}, {"digits of another script in a step", "1.١"}, {"wide digits", "１"},
		{"far beyond", "18446744073709551617"}, {"far beyond, 2^32 + 1", "4294967297"}, {"nine digits and more", "1000000000000000000000001"},
		{"a point alone", "1."}, {"two points", "1..0"}, {"two points at the end", "1.0."}, {"three stars", "1.***"}, {"four stars", "1.****"}, {"a star without a point", "1*"}, {"two stars without a point", "1**"}, {"a star behind a number", "1.0*"}, {"a number behind a star", "1.*0"}, {"a number behind two stars", "1.**0"}, {"a blank between stars", "1.* *"},
		{"the tenth reference", "1.10"}, {"the reference -1", "1.-1"}, {"the reference -0", "1.-0"}, {"the reference +1", "1.+1"}, {"the reference 00", "1.00"}, {"the reference 01", "1.01"}, {"the reference 09", "1.09"}, {"a reference far beyond", "1.18446744073709551616"}, {"a reference 2^32", "1.4294967296"}, {"a reference that is no number", "1.a"},
		{"kind 0", "1[k=0]"}, {"kind 100", "1[k=100]"}, {"kind -1", "1[k=-1]"}, {"kind -0", "1[k=-0]"}, {"kind +1", "1[k=+1]"}, {"kind 01", "1[k=01]"}, {"kind 00", "1[k=00]"}, {"no kind", "1[k=]"}, {"a kind that is no number", "1[k=k]"}, {"a kind far beyond", "1[k=18446744073709551617]"}, {"a kind with a blank", "1[k= 1]"}, {"a kind with a blank behind", "1[k=1 ]"},
		{"above 10^6 + 1", "1[i>1000001]"}, {"above -10^6 - 1", "1[i>-1000001]"}, {"above -0", "1[i>-0]"}, {"above +1", "1[i>+1]"}, {"above 01", "1[i>01]"}, {"above -01", "1[i>-01]"}, {"above 00", "1[i>00]"}, {"above --1", "1[i>--1]"}, {"above nothing", "1[i>]"}, {"above a minus", "1[i>-]"}, {"above far beyond", "1[i>18446744073709551616]"}, {"above far below", "1[i>-18446744073709551616]"}, {"above 2^32", "1[i>4294967296]"},
		{"another letter", "1[x=2]"}, {"a great letter", "1[K=2]"}, {"another great letter", "1[I>2]"}, {"the other sign of a kind", "1[k>2]"}, {"the other sign of a number", "1[i=2]"}, {"below", "1[i<2]"}, {"no less", "1[i>=2]"}, {"two signs", "1[k==2]"}, {"no sign", "1[k2]"}, {"no letter", "1[=2]"}, {"a number alone", "1[2]"}, {"nothing within", "1[]"}, {"an end alone", "1]"}, {"a beginning alone", "1["}, {"round ones", "1(k=2)"},
		{"no end", "1[k=5"}, {"no end of above", "1[i>5"}, {"two ends", "1[k=5]]"}, {"two ends of above", "1[i>5]]"}, {"two beginnings", "1[[k=5]"}, {"one within another", "1[k=[k=5]]"}, {"a point ahead", "1.[k=5]"}, {"a point within", "1[k=.5]"}, {"a point behind", "1[k=5]."}, {"a point in the number", "1[k=5.0]"}, {"an end behind a step", "1.0]"}, {"a number behind", "1[k=5]5"}, {"a star behind", "1[k=5]*"}, {"both in one", "1[k=5,i>5]"},
		{"more behind", "1.0 "}, {"more behind all", "1.*x"}, {"more behind deep", "1.**x"}, {"two paths", "1.0,2.0"}, {"two paths with a blank", "1 1"},
		{"nine steps", "1.0.0.0.0.0.0.0.0.0"}, {"nine of all", "1.*.*.*.*.*.*.*.*.*"}, {"nine of deep", "1" + strings.Repeat(".**", 9)}, {"nine of a kind", "1" + strings.Repeat("[k=1]", 9)}, {"nine of above", "1" + strings.Repeat("[i>-1]", 9)}, {"ten steps", "1" + strings.Repeat(".0", 10)}, {"far too many", "1" + strings.Repeat(".0", 100000)}, {"far too many points", strings.Repeat(".", 100000)}, {"far too many digits", strings.Repeat("1", 100000)},
	} {
		if got, ok := impl.ParsePath(x.s); ok || !isZeroPath(got) {
			t.Errorf("%s: %q: %v %v", x.why, x.s, got, ok)
		}
	}
}

func TestParsePathOfTextsCutOrWithMoreBehind(t *testing.T) {
	more := []string{" ", "\n", "\x00", "x", "0", "-", "+", "*", ".", "[", "]", ".0", ".*", ".**", "[k=1]", "[i>0]", ".10", "[k=", "\xff", "é"}
	found, refused := 0, 0
	for _, p := range samplePaths() {
		text := impl.PathText(p)
		for at := range text {
			if checkParsePath(t, text[:at]) {
				found++
			} else {
				refused++
			}
			checkParsePath(t, text[at:])
		}
		for _, m := range more {
			checkParsePath(t, text+m)
			checkParsePath(t, m+text)
		}
	}
	if found < 1000 || refused < 1000 {
		t.Errorf("of the texts that were cut off %d are paths, %d are none", found, refused)
	}
}

// A text in which one byte is another, or is not there, or comes twice, or has another behind it.
func TestParsePathOfTextsNearOne(t *testing.T) {
	for _, text := range []string{
		"1", "31", "1.0", "31.*.9", "1.**.*", "12[k=99]", "1[i>-10].**", "1[i>1000000]", "1[i>-1000000][k=10].4", "1.0.1.2.3.4.5.6.7", "1[k=1].*[i>0].**.*.0[i>-1][k=2]",
	} {
		if !checkParsePath(t, text) {
			t.Errorf("%q is no path", text)
		}
		for at := range text {
			checkParsePath(t, text[:at]+text[at+1:])
			checkParsePath(t, text[:at]+text[at:at+1]+text[at:])
			for c := range 256 {
				checkParsePath(t, text[:at]+string([]byte{byte(c)})+text[at+1:])
				checkParsePath(t, text[:at]+string([]byte{byte(c)})+text[at:])
			}
		}
	}
}

func TestParsePathOfEveryShortText(t *testing.T) {
	found := 0
	var check func(s string, left int)
	check = func(s string, left int) {
		if checkParsePath(t, s) {
			found++
		}
		if left == 0 {
			return
		}
		for _, c := range ".*[]k=i>-0192" {
			check(s+string(c), left-1)
		}
	}
	for _, head := range []string{"", "1.", "3", "1[k=", "1[i>", "1.*", "1.0.0.0.0.0.0.0"} {
		check(head, 4)
	}
	if found < 300 {
		t.Errorf("only %d paths among the texts", found)
	}
}

// meadow has objects that are named by several, that name themselves, nothing, and what is not there.
const meadow = "1=1(5;2,3,0) 2=2(-4;3,4) 3=2(8,1;9) 4=3(;1,4) 6=2(7;7,1) 7=99(0;6,6,31) 31=1(-1000000,1000000;31)"

func TestEvalForms(t *testing.T) {
	for _, x := range []struct {
		why  string
		v    string
		path string
		want []int
	}{
		{"nothing is there", "", "1", nil},
		{"nothing is there, deep", "", "1.**", nil},
		{"no step", meadow, "1", []int{1}},
		{"no step, the last object", meadow, "31", []int{31}},
		{"From is not there", meadow, "9", nil},
		{"From is not there, all", meadow, "9.*", nil},
		{"From is not there, deep", meadow, "9.**", nil},
		{"From is not there, but named, and names nobody", "1=1(;5,2) 2=1(;5)", "5.**", nil},
		{"the first reference", meadow, "1.0", []int{2}},
		{"the second reference", meadow, "1.1", []int{3}},
		{"a reference of 0", meadow, "1.2", nil},
		{"a reference that it has not", meadow, "1.3", nil},
		{"the greatest reference that may be asked", meadow, "1.9", nil},
		{"a reference of what has none", "1=1(5;)", "1.0", nil},
		{"the last of five", "1=1(;0,0,0,0,2) 2=1(;)", "1.4", []int{2}},
		{"behind the last of five", "1=1(;2,2,2,2,2) 2=1(;)", "1.5", nil},
		{"a reference to what is not there", meadow, "3.0", nil},
		{"nothing comes of what is not there", meadow, "3.0.**", nil},
		{"a reference to itself", meadow, "4.1", []int{4}},
		{"a reference to itself, eight times", meadow, "4.1.1.1.1.1.1.1.1", []int{4}},
		{"there and back", meadow, "6.0.0.0", []int{7}},
		{"all references", meadow, "1.*", []int{2, 3}},
		{"all references, itself among them", meadow, "4.*", []int{1, 4}},
		{"all references of what names one twice", meadow, "7.*", []int{6, 31}},
		{"all references of what has none", "1=1(5;)", "1.*", nil},
		{"all references, of 0 and to what is not there alone", "1=1(5;0,9,0)", "1.*", nil},
		{"all references, told ascending", "1=1(;31,5,20,2,11) 2=1(;) 5=1(;) 11=1(;) 20=1(;) 31=1(;)", "1.*", []int{2, 5, 11, 20, 31}},
		{"all of all, by two ways", meadow, "1.*.*", []int{3, 4}},
		{"by two ways, the later one first", "1=1(;8,3) 3=1(;4,9) 8=1(;9,2) 2=1(;) 4=1(;) 9=1(;)", "1.*.*", []int{2, 4, 9}},
		{"by two ways of another length", "1=1(;2,3) 2=1(;3) 3=1(;2)", "1.*.*.*", []int{2, 3}},
		{"the first of all", meadow, "1.*.0", []int{3}},
		{"the first of each is the same", "1=1(;2,3) 2=1(;4) 3=1(;4) 4=1(;)", "1.*.0", []int{4}},
		{"the second of those that have one", meadow, "1.*.1", []int{4}},
		{"deep", meadow, "1.**", []int{1, 2, 3, 4}},
		{"deep, of what names itself alone", meadow, "31.**", []int{31}},
		{"deep, of what names itself alone, twice", meadow, "31.**.**", []int{31}},
		{"deep, of what names nobody", "1=1(;)", "1.**", []int{1}},
		{"deep, of a ring", "1=1(;3) 2=1(;1) 3=1(;2) 4=1(;1)", "3.**", []int{1, 2, 3}},
		{"deep, of what is named alone", meadow, "2.**", []int{1, 2, 3, 4}},
		{"deep, of two that reach the same", "1=1(;3,2) 2=1(;4) 3=1(;4) 4=1(;5) 5=1(;2)", "1.*.**", []int{2, 3, 4, 5}},
		{"what deep ones name", "1=1(;2) 2=1(;3) 3=1(;)", "1.**.*", []int{2, 3}},
		{"what deep ones name is not there", "1=1(;2,9) 2=1(;9)", "1.**.*", []int{2}},
		{"itself is of the kind", meadow, "1[k=1]", []int{1}},
		{"itself is not of the kind", meadow, "1[k=2]", nil},
		{"of the kind 99", meadow, "7[k=99]", []int{7}},
		{"of the kind 98, 99 and none", meadow, "7[k=98]", nil},
		{"those of a kind", meadow, "1.**[k=2]", []int{2, 3}},
		{"those of two kinds", meadow, "1.**[k=2][k=3]", nil},
		{"those of a kind twice", meadow, "1.**[k=2][k=2]", []int{2, 3}},
		{"those of a kind that nobody is of", meadow, "6.**[k=50]", nil},
		{"its number is above", meadow, "1[i>4]", []int{1}},
		{"its number is the same", meadow, "1[i>5]", nil},
		{"its number is below", meadow, "1[i>6]", nil},
		{"the second number is above", "1=1(1,9;)", "1[i>5]", []int{1}},
		{"the first number is above", "1=1(9,1;)", "1[i>5]", []int{1}},
		{"the fifth number is above", "1=1(1,2,3,4,9;)", "1[i>8]", []int{1}},
		{"no number is above", "1=1(1,2,3,4,9;)", "1[i>9]", nil},
		{"it has no number", meadow, "4[i>-1000000]", nil},
		{"0 is above what is below 0", meadow, "7[i>-1]", []int{7}},
		{"0 is not above 0", meadow, "7[i>0]", nil},
		{"above what is below 0", meadow, "2[i>-5]", []int{2}},
		{"the same, below 0", meadow, "2[i>-4]", nil},
		{"the greatest number is not above itself", meadow, "31[i>1000000]", nil},
		{"the greatest number is above one less", meadow, "31[i>999999]", []int{31}},
		{"the least number is not above itself", "1=1(-1000000;)", "1[i>-1000000]", nil},
		{"one more than the least number is above it", "1=1(-999999;)", "1[i>-1000000]", []int{1}},
		{"the references of an object are no numbers", "1=1(;31)", "1[i>0]", nil},
		{"the kind of an object is no number", "1=99(;)", "1[i>0]", nil},
		{"those that are above", meadow, "1.**[i>0]", []int{1, 3}},
		{"those that are above, and their references", meadow, "1.**[i>-5][k=2].0", []int{3}},
		{"what is passed over does not lead on", "1=1(;2,3) 2=2(;4) 3=3(;5) 4=1(;) 5=1(;)", "1.*[k=3].*", []int{5}},
		{"a kind asked ahead, not behind", "1=1(;2) 2=2(;)", "1[k=1].0", []int{2}},
		{"a kind asked behind, not ahead", "1=1(;2) 2=2(;)", "1.0[k=1]", nil},
		{"the order of steps: the first of all", "1=1(;2,3) 2=1(;4,5) 3=1(;6,7) 4=1(;) 5=1(;) 6=1(;) 7=1(;)", "1.*.0", []int{4, 6}},
		{"the order of steps: all of the first", "1=1(;2,3) 2=1(;4,5) 3=1(;6,7) 4=1(;) 5=1(;) 6=1(;) 7=1(;)", "1.0.*", []int{4, 5}},
		{"the order of what comes is not that of the ways", "1=1(;9,2) 9=1(;3) 2=1(;8) 3=1(;) 8=1(;)", "1.*.0", []int{3, 8}},
		{"digits are no letters: 10 behind 9 behind 2", "1=1(;10,2,9) 2=1(;) 9=1(;) 10=1(;)", "1.*", []int{2, 9, 10}},
		{"eight steps", meadow, "1.0.1.1.*.**[k=2].*[i>0]", []int{3}},
	} {
		p, ok := impl.ParsePath(x.path)
		if !ok {
			t.Errorf("%s: %q is no path", x.why, x.path)
			continue
		}
		v := objectsFrom(x.v)
		if got := impl.Eval(v, p); !slices.Equal(got, x.want) {
			t.Errorf("%s: %v comes of %s, must be %v", x.why, got, x.path, x.want)
		}
		checkEval(t, v, p)
	}
}

func TestEvalFromEachObject(t *testing.T) {
	full := objectsFrom("")
	for oid := 1; oid <= impl.MaxOid; oid++ {
		full[oid] = slotOf(1+oid%3, []int{oid - 16}, []int{0, oid, oid%31 + 1, 32 - oid, oid / 2})
	}
	for _, v := range [][]impl.Slot{objectsFrom(meadow), objectsFrom(""), full} {
		for from := 1; from <= impl.MaxOid; from++ {
			checkEval(t, v, pathOf(from))
			for n := range 10 {
				checkEval(t, v, pathOf(from, refStep(n)))
			}
			for _, first := range []impl.PathStep{refStep(2), allStep, deepStep, kindStep(1), overStep(-3)} {
				for _, second := range []impl.PathStep{refStep(3), allStep, kindStep(2), overStep(0)} {
					checkEval(t, v, pathOf(from, first, second))
				}
			}
		}
	}
}

// chanceObjects is a chance view whose objects are of few kinds, with few numbers.
func chanceObjects(r *turns) []impl.Slot {
	v := chanceView(r)
	for oid := range v {
		if v[oid].Has {
			v[oid].O.Kind = 1 + r.below(3)
			for range r.below(4) {
				v[oid].O.Ints = append(v[oid].O.Ints, r.below(9)-6)
			}
		}
	}
	return v
}

// checkPieces holds a path against what comes of it one step after the other, each as a path of its own.
func checkPieces(t *testing.T, v []impl.Slot, p impl.Path) {
	t.Helper()
	oids := impl.Eval(v, pathOf(p.From))
	for i, s := range p.Steps {
		var next []int
		for _, oid := range oids {
			next = append(next, impl.Eval(v, pathOf(oid, s))...)
		}
		slices.Sort(next)
		oids = slices.Compact(next)
		if got := impl.Eval(v, pathOf(p.From, p.Steps[:i+1]...)); !slices.Equal(got, oids) {
			t.Fatalf("%s of %s, %d steps: %v, one by one %v", plainPathText(p), objectsText(v), i+1, got, oids)
		}
	}
}

func TestEvalOfChancePaths(t *testing.T) {
	r := &turns{1212}
	came := map[int]int{}
	for range 1500 {
		v := chanceObjects(r)
		for range 4 {
			p := chancePath(r)
			if r.below(2) == 0 {
				p.From = 1 + r.below(5)
			}
			came[min(len(checkEval(t, v, p)), 6)]++
			checkPieces(t, v, p)
		}
	}
	for count := range 7 {
		if came[count] < 20 {
			t.Errorf("paths of which %d came: %v", count, came)
		}
	}
}

// Each path of at most three steps over views of three objects with at most two Refs, which may go to nothing and to what is not there.
func TestEvalOfAllShortPaths(t *testing.T) {
	steps := []impl.PathStep{refStep(0), refStep(1), allStep, deepStep, kindStep(1), overStep(0)}
	paths := []impl.Path{pathOf(1)}
	for at := 0; at < len(paths); at++ {
		for _, s := range steps {
			if len(paths[at].Steps) < 3 {
				paths = append(paths, pathOf(1, append(slices.Clone(paths[at].Steps), s)...))
			}
		}
	}
	shapes := []string{"-", "1(;)", "2(1;2)", "1(0;3,1)", "2(-1,1;4,2)", "1(1;0,3)"}
	for _, first := range shapes {
		for _, second := range shapes {
			for _, third := range shapes {
				v := objectsFrom("")
				for i, shape := range []string{first, second, third} {
					if o, ok := impl.ParseObj(shape); ok {
						v[i+1] = impl.Slot{Has: true, O: o}
					}
				}
				for _, p := range paths {
					checkEval(t, v, p)
				}
			}
		}
	}
}

func TestEvalOfEngines(t *testing.T) {
	for _, e := range goodEngines(t) {
		v := impl.View(e)
		for from := 1; from <= impl.MaxOid; from++ {
			for _, p := range []impl.Path{pathOf(from), pathOf(from, refStep(1)), pathOf(from, allStep), pathOf(from, deepStep, kindStep(1)), pathOf(from, deepStep, overStep(-2))} {
				checkEval(t, v, p)
			}
		}
	}
}

func TestEvalRefusesWhatIsNoView(t *testing.T) {
	for _, w := range wrongViews() {
		was := deepView(w.v)
		for _, p := range []impl.Path{pathOf(1), pathOf(2), pathOf(31), pathOf(1, allStep), pathOf(1, deepStep), pathOf(1, refStep(0)), pathOf(2, kindStep(3)), pathOf(0), pathOf(32), {}} {
			if got := impl.Eval(w.v, p); len(got) != 0 {
				t.Errorf("%s: %v comes of %v", w.why, got, p)
			}
		}
		for _, p := range wrongPaths()[:40] {
			if got := impl.Eval(w.v, p); len(got) != 0 {
				t.Errorf("%s: %v comes of %v", w.why, got, p)
			}
		}
		if !sameViews(w.v, was) {
			t.Errorf("%s: %v was made of it", w.why, w.v)
		}
	}
}

// An empty list is no other than none, in a slot that has nothing, too.
func TestEvalTakesEmptyListsAsNone(t *testing.T) {
	v := objectsFrom("1=1(;2) 2=1(;)")
	for i := range v {
		v[i].O.Ints = []int{}
		if i != 1 {
			v[i].O.Refs = []int{}
		}
	}
	for _, p := range []impl.Path{{From: 1}, {From: 1, Steps: []impl.PathStep{}}} {
		if got := impl.Eval(v, p); !slices.Equal(got, []int{1}) {
			t.Errorf("%v comes of %v", got, p)
		}
	}
	for _, s := range sampleSteps() {
		checkEval(t, v, pathOf(1, s))
		checkEval(t, v, pathOf(2, s))
	}
}

// roomyPath is a path with foreign steps behind its end; kept tells whether all of them are as they were.
func roomyPath(from int, steps ...impl.PathStep) (impl.Path, func() bool) {
	room := append(slices.Clone(steps), stepOf(777, 777), deepStep, stepOf(777, 777))
	was := slices.Clone(room)
	return impl.Path{From: from, Steps: room[:len(steps)]}, func() bool { return slices.Equal(room, was) }
}

func TestPathArgumentsAreLeft(t *testing.T) {
	v, viewKept := roomyView()
	for _, from := range []int{-1, 0, 1, 5, 31, 32} {
		for _, steps := range [][]impl.PathStep{
			{}, {refStep(0)}, {refStep(1)}, {refStep(2)}, {refStep(5)}, {allStep}, {deepStep}, {kindStep(7)}, {kindStep(8)}, {overStep(4)}, {overStep(700)},
			{stepOf(6, 0)}, {refStep(10)}, {allStep, allStep, deepStep}, slices.Repeat([]impl.PathStep{deepStep}, 8), slices.Repeat([]impl.PathStep{deepStep}, 9),
		} {
			p, pathKept := roomyPath(from, steps...)
			if got := impl.PathOk(p); got != plainPathOk(pathOf(from, steps...)) {
				t.Errorf("PathOk of %v: %v", p, got)
			}
			impl.PathText(p)
			for _, view := range [][]impl.Slot{v, v[:31], v[1:]} {
				got := impl.Eval(view, p)
				if want := plainEval(deepView(view), pathOf(from, steps...)); !slices.Equal(got, want) {
					t.Errorf("%v comes of %v, must be %v", got, p, want)
				}
				scribble(got)
			}
			if !viewKept() || !pathKept() {
				t.Fatalf("an argument was written into, or is shared: %v", p)
			}
		}
	}
}

// What is answered is written over, with the room behind it; then all is asked again.
func TestPathAnswersShareNothing(t *testing.T) {
	v := objectsFrom(meadow)
	for _, text := range []string{"1", "1.0", "1.*", "1.**", "1.**[k=2]", "1.**[i>0]", "1.*.*.**.*.0[k=2][i>0].**"} {
		p, ok := impl.ParsePath(text)
		if !ok {
			t.Fatalf("%q is no path", text)
		}
		want := plainEval(v, p)
		for range 2 {
			oids := impl.Eval(v, p)
			if again, _ := impl.ParsePath(text); !samePaths(again, p) || !slices.Equal(oids, want) {
				t.Errorf("%q: %v, %v; must be %v, %v", text, again, oids, p, want)
			}
			other, _ := impl.ParsePath(text)
			scribble(oids)
			room := other.Steps[:cap(other.Steps)]
			for i := range room {
				room[i] = stepOf(9, 9)
			}
			if plainPathText(p) != text || objectsText(v) != meadow {
				t.Errorf("%q: an answer is shared: %v", text, p)
			}
		}
	}
}

func pathAnswers(v []impl.Slot, p impl.Path, text string) string {
	got, ok := impl.ParsePath(text)
	return fmt.Sprint(impl.PathOk(p), impl.PathText(p), got, ok, impl.Eval(v, p))
}

func TestPathCallsKeepNothing(t *testing.T) {
	v, p := objectsFrom(meadow), pathOf(1, deepStep, kindStep(2), allStep)
	first := pathAnswers(v, p, "6.*[i>-2]")
	for _, wrong := range wrongPaths() {
		pathAnswers(v, wrong, "1.***")
	}
	for _, w := range wrongViews() {
		pathAnswers(w.v, p, "")
	}
	for _, other := range samplePaths() {
		pathAnswers(objectsFrom("1=2(9;31) 31=2(;1)"), other, impl.PathText(other))
	}
	if again := pathAnswers(v, p, "6.*[i>-2]"); again != first {
		t.Errorf("what was called ahead is seen: %s, was %s", again, first)
	}
}
