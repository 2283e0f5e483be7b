package tests

import (
	"bytes"
	"encoding/binary"
	"math"
	"regexp"
	"slices"
	"strconv"
	"strings"
	"testing"

	"loop.example/g00181/impl"
)

const mostPart = 1000000

// sampleObjs are objects at every edge of each part, with every other.
func sampleObjs() []impl.Obj {
	ints := [][]int{
		nil, {0}, {-1}, {1}, {63, 64}, {-64, -65}, {mostPart}, {-mostPart}, {5, 5, 5},
		{0, -1, 2, -3}, {mostPart, -mostPart, 0, 8192, -8193},
	}
	refs := [][]int{nil, {0}, {1}, {31}, {0, 31}, {31, 31}, {3, 2, 1}, {0, 0, 0, 0}, {1, 0, 31, 7, 10}}
	var out []impl.Obj
	for _, kind := range []int{1, 2, 9, 10, 63, 64, 98, 99} {
		for _, is := range ints {
			for _, rs := range refs {
				out = append(out, impl.Obj{Kind: kind, Ints: is, Refs: rs})
			}
		}
	}
	return out
}

// wrongObjs are one beyond each edge, and far beyond it.
func wrongObjs() []impl.Obj {
	out := []impl.Obj{
		{}, {Ints: []int{1}}, {Refs: []int{1}},
		{Kind: 1, Ints: make([]int, impl.MaxParts+1)}, {Kind: 1, Refs: make([]int, impl.MaxParts+1)},
		{Kind: 1, Ints: make([]int, 300)}, {Kind: 1, Refs: make([]int, 300)},
	}
	for _, kind := range []int{0, -1, 100, 101, math.MaxInt64, math.MinInt64} {
		out = append(out, impl.Obj{Kind: kind}, impl.Obj{Kind: kind, Ints: []int{1}, Refs: []int{1}})
	}
	for _, n := range []int{mostPart + 1, -mostPart - 1, math.MaxInt64, math.MinInt64} {
		out = append(out, impl.Obj{Kind: 1, Ints: []int{n}}, impl.Obj{Kind: 1, Ints: []int{0, 0, 0, 0, n}})
	}
	for _, n := range []int{-1, impl.MaxOid + 1, math.MaxInt64, math.MinInt64} {
		out = append(out, impl.Obj{Kind: 1, Refs: []int{n}}, impl.Obj{Kind: 1, Refs: []int{0, 0, 0, 0, n}})
	}
	return out
}

// alike holds two objects against each other by means of the test's own.
func alike(a impl.Obj, b impl.Obj) bool {
	return a.Kind == b.Kind && slices.Equal(a.Ints, b.Ints) && slices.Equal(a.Refs, b.Refs)
}

func isZeroObj(o impl.Obj) bool { return alike(o, impl.Obj{}) }

// plainNumbers lists an object's numbers in the order of its bytes.
func plainNumbers(o impl.Obj) []int {
	out := append([]int{o.Kind, len(o.Ints)}, o.Ints...)
	return append(append(out, len(o.Refs)), o.Refs...)
}

// bytesOf puts numbers by the library's own means.
func bytesOf(ns ...int) []byte {
	var b []byte
	for _, n := range ns {
		b = binary.AppendVarint(b, int64(n))
	}
	return b
}

func plainText(o impl.Obj) string {
	list := func(ns []int) string {
		out := ""
		for i, n := range ns {
			if i > 0 {
				out += ","
			}
			out += strconv.Itoa(n)
		}
		return out
	}
	return strconv.Itoa(o.Kind) + "(" + list(o.Ints) + ";" + list(o.Refs) + ")"
}

func TestObjLimits(t *testing.T) {
	if impl.MaxOid != 31 || impl.MaxParts != 5 {
		t.Errorf("limits: %d %d", impl.MaxOid, impl.MaxParts)
	}
	for _, o := range sampleObjs() {
		if !impl.ObjOk(o) {
			t.Errorf("%v is one", o)
		}
	}
	for _, o := range wrongObjs() {
		if impl.ObjOk(o) {
			t.Errorf("%v is none", o)
		}
	}
	for kind := -200; kind <= 200; kind++ {
		if got := impl.ObjOk(impl.Obj{Kind: kind}); got != (kind >= 1 && kind <= 99) {
			t.Errorf("kind %d: %v", kind, got)
		}
	}
	for ref := -50; ref <= 50; ref++ {
		if got := impl.ObjOk(impl.Obj{Kind: 1, Refs: []int{ref}}); got != (ref >= 0 && ref <= 31) {
			t.Errorf("reference %d: %v", ref, got)
		}
	}
	for size := range 9 {
		if got := impl.ObjOk(impl.Obj{Kind: 1, Ints: make([]int, size)}); got != (size <= 5) {
			t.Errorf("%d numbers: %v", size, got)
		}
		if got := impl.ObjOk(impl.Obj{Kind: 1, Refs: make([]int, size)}); got != (size <= 5) {
			t.Errorf("%d references: %v", size, got)
		}
	}
}

func TestPutObjForms(t *testing.T) {
	for _, x := range []struct {
		o    impl.Obj
		want string
	}{
		{impl.Obj{Kind: 1}, "\x02\x00\x00"},
		{impl.Obj{Kind: 99}, "\xc6\x01\x00\x00"},
		{impl.Obj{Kind: 7, Ints: []int{5, -1}, Refs: []int{0, 31}}, "\x0e\x04\x0a\x01\x04\x00\x3e"},
		{impl.Obj{Kind: 2, Ints: []int{mostPart}}, "\x04\x02\x80\x89\x7a\x00"},
		{impl.Obj{Kind: 2, Ints: []int{-mostPart}}, "\x04\x02\xff\x88\x7a\x00"},
		{impl.Obj{Kind: 3, Refs: []int{1, 2, 3, 4, 5}}, "\x06\x00\x0a\x02\x04\x06\x08\x0a"},
	} {
		if got := impl.PutObj(x.o); string(got) != x.want {
			t.Errorf("PutObj of %v: %x, want %x", x.o, got, x.want)
		}
	}
}

func TestObjsComeBackOfTheirBytes(t *testing.T) {
	for _, o := range sampleObjs() {
		b := impl.PutObj(o)
		if want := bytesOf(plainNumbers(o)...); !bytes.Equal(b, want) {
			t.Errorf("PutObj of %v: %x, want %x", o, b, want)
		}
		if got, ok := impl.GetObj(b); !ok || !alike(got, o) {
			t.Errorf("GetObj of %v: %v %v", o, got, ok)
		}
	}
}

func TestNothingOfWhatIsNoObj(t *testing.T) {
	for _, o := range wrongObjs() {
		if b := impl.PutObj(o); len(b) != 0 {
			t.Errorf("PutObj of %v: %x", o, b)
		}
		if s := impl.ObjText(o); s != "" {
			t.Errorf("ObjText of %v: %q", o, s)
		}
		if got, ok := impl.GetObj(bytesOf(plainNumbers(o)...)); ok || !isZeroObj(got) {
			t.Errorf("GetObj of the bytes of %v: %v %v", o, got, ok)
		}
		if got, ok := impl.ParseObj(plainText(o)); ok || !isZeroObj(got) {
			t.Errorf("ParseObj of %q: %v %v", plainText(o), got, ok)
		}
	}
}

func TestGetObjOfBytesCutOrWithMoreBehind(t *testing.T) {
	for _, o := range sampleObjs() {
		b := impl.PutObj(o)
		for cut := range b {
			// The list keeps its spare room: what lies there is not to be read.
			if got, ok := impl.GetObj(b[:cut]); ok || !isZeroObj(got) {
				t.Errorf("%x cut to %d: %v %v", b, cut, got, ok)
			}
		}
		for _, more := range []string{"\x00", "\x02", "\x80", "\xff\xff", "\x02\x00\x00"} {
			if got, ok := impl.GetObj(append(bytes.Clone(b), more...)); ok || !isZeroObj(got) {
				t.Errorf("%x and %x: %v %v", b, more, got, ok)
			}
		}
	}
}

func TestGetObjRefuses(t *testing.T) {
	for _, x := range []struct {
		why string
		b   string
	}{
		{"nothing", ""}, {"a kind alone", "\x02"}, {"no count of references", "\x02\x00"},
		{"a byte more", "\x0e\x00\x00\x00"}, {"two objects", "\x02\x00\x00\x02\x00\x00"},
		{"kind 0", "\x00\x00\x00"}, {"kind -1", "\x01\x00\x00"}, {"kind 100", "\xc8\x01\x00\x00"},
		{"a count below 0 of numbers", "\x02\x01\x00"}, {"a count below 0 of references", "\x02\x00\x01"},
		{"a count far below 0", "\x02\xff\xbf\xa8\xca\x9a\x3a\x00"}, {"a count far out", "\x02\x80\xc0\xa8\xca\x9a\x3a\x00"},
		{"a count far out of references", "\x02\x00\x80\xc0\xa8\xca\x9a\x3a"},
		{"six numbers", "\x02\x0c\x00\x00\x00\x00\x00\x00\x00"}, {"six references", "\x02\x00\x0c\x00\x00\x00\x00\x00\x00"},
		{"a number short", "\x02\x04\x00\x00"}, {"a reference short", "\x02\x00\x04\x00"},
		{"10^6 and one", "\x02\x02\x82\x89\x7a\x00"}, {"-10^6 and one below", "\x02\x02\x81\x89\x7a\x00"},
		{"reference 32", "\x02\x00\x02\x40"}, {"reference -1", "\x02\x00\x02\x01"},
		{"kind with a needless group", "\x82\x00\x00\x00"}, {"count with a needless group", "\x02\x80\x00\x00"},
		{"number with a needless group", "\x02\x02\x80\x00\x00"}, {"count of references with a needless group", "\x02\x00\x80\x00"},
		{"reference with a needless group", "\x02\x00\x02\x82\x00"},
		{"kind without end", "\x80\x80\x80\x80\x80\x80\x80"}, {"reference without end", "\x02\x00\x02\x80"},
		{"number beyond the most", "\x02\x02\x82\xc0\xa8\xca\x9a\x3a\x00"}, {"a frame of it", "\x06\x02\x00\x00\x01\x02\x03\x04"},
	} {
		if got, ok := impl.GetObj([]byte(x.b)); ok || !isZeroObj(got) {
			t.Errorf("%s: %v %v", x.why, got, ok)
		}
	}
}

// plainObj reads an object from its list of numbers: the reading that GetObj is held against.
func plainObj(b []byte) (impl.Obj, bool) {
	var ns []int
	for len(b) > 0 {
		n, size, ok := plainInt(b)
		if !ok {
			return impl.Obj{}, false
		}
		ns, b = append(ns, n), b[size:]
	}
	for ints := range 6 {
		for refs := range 6 {
			if len(ns) != 3+ints+refs || ns[1] != ints || ns[2+ints] != refs {
				continue
			}
			o := impl.Obj{Kind: ns[0], Ints: ns[2 : 2+ints], Refs: ns[3+ints:]}
			if o.Kind < 1 || o.Kind > 99 {
				return impl.Obj{}, false
			}
			wrongInt := func(n int) bool { return n < -mostPart || n > mostPart }
			wrongRef := func(n int) bool { return n < 0 || n > 31 }
			if slices.ContainsFunc(o.Ints, wrongInt) || slices.ContainsFunc(o.Refs, wrongRef) {
				return impl.Obj{}, false
			}
			return o, true
		}
	}
	return impl.Obj{}, false
}

func TestGetObjOfEveryShortList(t *testing.T) {
	few := []byte{0, 1, 2, 4, 0x0a, 0x0c, 0x3e, 0x40, 0x80, 0xc6, 0xff}
	found := 0
	var check func(b []byte, left int)
	check = func(b []byte, left int) {
		got, ok := impl.GetObj(b)
		want, wantOk := plainObj(b)
		if ok != wantOk || !alike(got, want) {
			t.Fatalf("%x: %v %v, want %v %v", b, got, ok, want, wantOk)
		}
		if ok {
			found++
			if again := impl.PutObj(got); !bytes.Equal(again, b) {
				t.Fatalf("%x: another form of %v, %x", b, got, again)
			}
		}
		if left == 0 {
			return
		}
		for _, c := range few {
			check(append(bytes.Clone(b), c), left-1)
		}
	}
	check(nil, 5)
	if found < 50 {
		t.Errorf("only %d objects among the lists", found)
	}
}

func TestGetObjOfTurnedBits(t *testing.T) {
	for _, o := range sampleObjs() {
		b := impl.PutObj(o)
		for i := range b {
			for bit := range 8 {
				bad := bytes.Clone(b)
				bad[i] ^= 1 << bit
				got, ok := impl.GetObj(bad)
				want, wantOk := plainObj(bad)
				if ok != wantOk || !alike(got, want) {
					t.Fatalf("%x: %v %v, want %v %v", bad, got, ok, want, wantOk)
				}
			}
		}
	}
}

func TestObjTextForms(t *testing.T) {
	for _, x := range []struct {
		o    impl.Obj
		want string
	}{
		{impl.Obj{Kind: 1}, "1(;)"}, {impl.Obj{Kind: 99, Ints: []int{}, Refs: []int{}}, "99(;)"},
		{impl.Obj{Kind: 7, Ints: []int{5, -1}, Refs: []int{0, 31}}, "7(5,-1;0,31)"},
		{impl.Obj{Kind: 10, Ints: []int{0}}, "10(0;)"}, {impl.Obj{Kind: 2, Refs: []int{0}}, "2(;0)"},
		{impl.Obj{Kind: 3, Ints: []int{mostPart, -mostPart}}, "3(1000000,-1000000;)"},
		{impl.Obj{Kind: 4, Ints: []int{1, 2, 3, 4, 5}, Refs: []int{5, 4, 3, 2, 1}}, "4(1,2,3,4,5;5,4,3,2,1)"},
	} {
		if got := impl.ObjText(x.o); got != x.want {
			t.Errorf("ObjText of %v: %q, want %q", x.o, got, x.want)
		}
		if got, ok := impl.ParseObj(x.want); !ok || !alike(got, x.o) {
			t.Errorf("ParseObj of %q: %v %v", x.want, got, ok)
		}
	}
}

func TestObjsComeBackOfTheirText(t *testing.T) {
	for _, o := range sampleObjs() {
		s := impl.ObjText(o)
		if want := plainText(o); s != want {
			t.Errorf("ObjText of %v: %q, want %q", o, s, want)
		}
		if got, ok := impl.ParseObj(s); !ok || !alike(got, o) {
			t.Errorf("ParseObj of %q: %v %v", s, got, ok)
		}
	}
}

func TestParseObjRefuses(t *testing.T) {
	huge := strings.Repeat("9", 400)
	for _, x := range []struct {
		why   string
		texts []string
	}{
		{"nothing", []string{"", " ", "\n", "\x00"}},
		{"signs missing", []string{"7", "7()", "7(;", "7;)", "7(", "7)", "7;", "(;)", ";", "()", "7(1,2)", "7(12;3", "7 1;2)", "7(1 2;)", "(1;2)"}},
		{"signs doubled", []string{"7((;)", "7(;;)", "7(;))", "7(1,,2;)", "7(;1,,2)", "7(;)(;)", "7(1;2;3)", "7(--1;)", "7(1;;2)"}},
		{"signs left behind", []string{"7(,;)", "7(5,;)", "7(,5;)", "7(;,)", "7(;5,)", "7(;,5)", "7(;),", "7(;).", "7(;)1", "7(-;)", "7(;-)", "7(1-;)", "7(1-2;)", "-(;)", "7,(;)", ",7(;)", "7(5;1),", "7(;)\x00"}},
		{"signs turned round", []string{"7);(", "7(;1)2", ";7()", "7[;]", "7{;}", "7(1:2)", "7(1.2;)", "7(1;2", "7)1;2("}},
		{"blanks", []string{" 7(;)", "7(;) ", "7 (;)", "7( ;)", "7(; )", "7(1, 2;)", "7(;1 )", "7(;)\n", "\t7(;)", "7(\u00a01;)"}},
		{"needless noughts", []string{"07(;)", "007(;)", "7(01;)", "7(00;)", "7(-01;)", "7(;01)", "7(;00)", "7(;031)", "7(1,00;)", "00(;)"}},
		{"minus ahead of 0", []string{"7(-0;)", "7(;-0)", "7(1,-0;)", "7(-00;)", "7(;1,-0)", "-0(;)"}},
		{"minus ahead of a kind or a reference", []string{"-7(;)", "-1(;)", "7(;-1)", "7(;-31)", "7(;1,-2)"}},
		{"plus", []string{"+7(;)", "7(+1;)", "7(;+1)", "7(+0;)", "7(-+1;)", "7(+-1;)"}},
		{"beyond a limit", []string{"0(;)", "100(;)", "999(;)", "7(1000001;)", "7(-1000001;)", "7(;32)", "7(;100)", "7(0,1000001;)", "7(;0,32)"}},
		{"far beyond", []string{huge + "(;)", "7(" + huge + ";)", "7(-" + huge + ";)", "7(;" + huge + ")", "7(9223372036854775807;)", "7(9223372036854775808;)", "7(-9223372036854775808;)", "7(18446744073709551617;)", "18446744073709551617(;)", "7(;18446744073709551616)"}},
		{"too many", []string{"7(1,2,3,4,5,6;)", "7(;1,2,3,4,5,6)", "7(" + strings.Repeat("1,", 5000) + "1;)"}},
		{"no digits", []string{"a(;)", "7(a;)", "7(;a)", "7(1e3;)", "7(0x1;)", "7(1_000;)", "7(;1_0)", "7(0b1;)", "7(1a;)", "\u0667(;)", "7(\u0661;)", "7(;\xff)", "\xff(;)", "７(;)"}},
	} {
		for _, s := range x.texts {
			if got, ok := impl.ParseObj(s); ok || !isZeroObj(got) {
				t.Errorf("%s: %q: %v %v", x.why, s, got, ok)
			}
		}
	}
}

// objForm is the form of a text, the limits of numbers aside.
var objForm = regexp.MustCompile(`^[1-9][0-9]?\(((0|-?[1-9][0-9]*)(,(0|-?[1-9][0-9]*)){0,4})?;((0|[1-9][0-9]?)(,(0|[1-9][0-9]?)){0,4})?\)$`)

func TestParseObjOfEveryShortText(t *testing.T) {
	found := 0
	var check func(s string, left int)
	check = func(s string, left int) {
		got, ok := impl.ParseObj(s)
		if ok != objForm.MatchString(s) {
			t.Fatalf("%q: %v %v", s, got, ok)
		}
		switch {
		case !ok && !isZeroObj(got):
			t.Fatalf("%q: %v beside false", s, got)
		case ok && plainText(got) != s:
			t.Fatalf("%q: %v", s, got)
		case ok:
			found++
		}
		if left == 0 {
			return
		}
		for _, c := range "01-,;()" {
			check(s+string(c), left-1)
		}
	}
	// No reference above 11 and no number above 11111 comes of so few signs, so the form alone decides.
	for _, head := range []string{"", "1", "1(", "1(;", "1(1", "11(-1"} {
		check(head, 5)
	}
	if found < 100 {
		t.Errorf("only %d objects among the texts", found)
	}
}

func TestParseObjOfTextsWithOneSignChanged(t *testing.T) {
	for _, s := range []string{"1(;)", "7(5,-1;0,31)", "99(0;0)", "40(-999999,10;7,30)"} {
		for i := range len(s) + 1 {
			for _, c := range " 0-,;()+a" {
				texts := []string{s[:i] + string(c) + s[i:]}
				if i < len(s) {
					texts = append(texts, s[:i]+string(c)+s[i+1:], s[:i]+s[i+1:])
				}
				for _, changed := range texts {
					got, ok := impl.ParseObj(changed)
					if ok && (impl.ObjText(got) != changed || !objForm.MatchString(changed)) {
						t.Errorf("%q: %v", changed, got)
					}
					if !ok && !isZeroObj(got) {
						t.Errorf("%q: %v beside false", changed, got)
					}
				}
			}
		}
	}
}

func TestSameObj(t *testing.T) {
	list := append(sampleObjs(), impl.Obj{Kind: 1, Ints: []int{1}, Refs: []int{2, 3}}, impl.Obj{Kind: 1, Ints: []int{1, 2}, Refs: []int{3}})
	for i, a := range list {
		for j, b := range list {
			if got := impl.SameObj(a, b); got != (i == j) {
				t.Fatalf("%v and %v: %v", a, b, got)
			}
		}
	}
	full := impl.Obj{Kind: 7, Ints: []int{5, -1}, Refs: []int{0, 31}}
	for _, other := range []impl.Obj{
		{Kind: 8, Ints: []int{5, -1}, Refs: []int{0, 31}}, {Kind: 7, Ints: []int{5, 1}, Refs: []int{0, 31}},
		{Kind: 7, Ints: []int{-1, 5}, Refs: []int{0, 31}}, {Kind: 7, Ints: []int{5}, Refs: []int{0, 31}},
		{Kind: 7, Ints: []int{5, -1}, Refs: []int{31, 0}}, {Kind: 7, Ints: []int{5, -1}, Refs: []int{31}},
		{Kind: 7, Ints: []int{0, 31}, Refs: []int{5, -1}}, {Kind: 7, Ints: []int{5, -1, 0}, Refs: []int{31}}, {},
	} {
		if impl.SameObj(full, other) || impl.SameObj(other, full) {
			t.Errorf("%v is the same as %v", other, full)
		}
	}
}

func TestSameObjOfEmptyListsAndOfNone(t *testing.T) {
	if !impl.SameObj(impl.Obj{Kind: 1}, impl.Obj{Kind: 1, Ints: []int{}, Refs: []int{}}) {
		t.Error("an empty list and nil are the same value")
	}
	if !impl.SameObj(impl.Obj{}, impl.Obj{}) || impl.SameObj(impl.Obj{}, impl.Obj{Kind: 1}) {
		t.Error("the zero one")
	}
	for i, a := range wrongObjs() {
		for j, b := range wrongObjs() {
			if got := impl.SameObj(a, b); got != alike(a, b) || i == j && !got {
				t.Fatalf("%v and %v: %v", a, b, got)
			}
		}
	}
}

// spareInts is a list with foreign numbers in the room behind its length.
func spareInts(ns ...int) (list []int, room []int) {
	room = append(slices.Clone(ns), 777, 777, 777, 777)
	return room[:len(ns)], room
}

func TestObjArgumentsAreLeft(t *testing.T) {
	ints, intRoom := spareInts(5, -1)
	refs, refRoom := spareInts(0, 31)
	o := impl.Obj{Kind: 7, Ints: ints, Refs: refs}
	if !impl.ObjOk(o) || !impl.SameObj(o, o) {
		t.Error("the room behind the lists was read")
	}
	b := impl.PutObj(o)
	if string(b) != "\x0e\x04\x0a\x01\x04\x00\x3e" || impl.ObjText(o) != "7(5,-1;0,31)" {
		t.Errorf("%x %q", b, impl.ObjText(o))
	}
	if !slices.Equal(intRoom, []int{5, -1, 777, 777, 777, 777}) || !slices.Equal(refRoom, []int{0, 31, 777, 777, 777, 777}) {
		t.Errorf("an argument was written into: %v %v", intRoom, refRoom)
	}
	wrong, wrongRoom := spareInts(0, -1)
	impl.PutObj(impl.Obj{Kind: 7, Ints: wrong, Refs: wrong})
	if !slices.Equal(wrongRoom, []int{0, -1, 777, 777, 777, 777}) {
		t.Errorf("an argument that is refused was written into: %v", wrongRoom)
	}
}

// scribble writes over a list and over the spare room behind it.
func scribble(list []int) {
	list = list[:cap(list)]
	for i := range list {
		list[i] = 9
	}
}

func TestObjAnswersShareNothing(t *testing.T) {
	want := impl.Obj{Kind: 7, Ints: []int{5, -1}, Refs: []int{0, 31}}
	whole := string(impl.PutObj(want))
	b, room := spare(whole)
	fromBytes, _ := impl.GetObj(b)
	if !roomKept(room, whole) {
		t.Errorf("GetObj wrote into its argument: %x", room)
	}
	clear(room)
	fromText, _ := impl.ParseObj("7(5,-1;0,31)")
	for _, o := range []impl.Obj{fromBytes, fromText} {
		if !alike(o, want) {
			t.Errorf("the answer changed with the argument: %v", o)
		}
		scribble(o.Ints)
		if !slices.Equal(o.Refs, want.Refs) {
			t.Errorf("the lists of one answer share memory: %v", o.Refs)
		}
	}
}

func TestObjCallsKeepNothing(t *testing.T) {
	o := impl.Obj{Kind: 7, Ints: []int{5, -1}, Refs: []int{0, 31}}
	first, text := impl.PutObj(o), impl.ObjText(o)
	for _, w := range wrongObjs() {
		impl.PutObj(w)
		impl.GetObj(bytesOf(plainNumbers(w)...))
		impl.ParseObj(plainText(w))
	}
	if !bytes.Equal(impl.PutObj(o), first) || impl.ObjText(o) != text {
		t.Error("what was refused left something behind")
	}
	clear(first)
	if got, ok := impl.GetObj(impl.PutObj(o)); !ok || !alike(got, o) {
		t.Errorf("an answer is kept: %v %v", got, ok)
	}
}
