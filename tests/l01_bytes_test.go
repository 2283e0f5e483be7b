package tests

import (
	"bytes"
	"encoding/binary"
	"hash/crc32"
	"math"
	"strings"
	"testing"

	"loop.example/g00181/impl"
)

// sampleInts are numbers around every edge of the form: each length of bytes, either sign, and the limits.
func sampleInts() []int {
	out := []int{0, 1, -1, 2, -2, 300, -300, 999999999999, -999999999999, impl.MaxInt, -impl.MaxInt}
	for shift := 1; shift < 40; shift++ {
		edge := 1 << shift
		if edge > impl.MaxInt {
			break
		}
		out = append(out, edge-1, edge, edge+1, -edge+1, -edge, -edge-1)
	}
	return out
}

// spare is a list with foreign bytes in the room behind its length.
func spare(s string) (list []byte, room []byte) {
	room = append([]byte(s), bytes.Repeat([]byte{0xAA}, 40)...)
	return room[:len(s)], room
}

func roomKept(room []byte, s string) bool {
	return string(room) == s+strings.Repeat("\xaa", 40)
}

func TestPutIntForms(t *testing.T) {
	for _, x := range []struct {
		n    int
		want string
	}{
		{0, "\x00"}, {-1, "\x01"}, {1, "\x02"}, {-2, "\x03"}, {63, "\x7e"}, {-64, "\x7f"},
		{64, "\x80\x01"}, {-65, "\x81\x01"}, {8191, "\xfe\x7f"}, {-8192, "\xff\x7f"}, {8192, "\x80\x80\x01"},
		{impl.MaxInt, "\x80\xc0\xa8\xca\x9a\x3a"}, {-impl.MaxInt, "\xff\xbf\xa8\xca\x9a\x3a"},
	} {
		if got := impl.PutInt(nil, x.n); string(got) != x.want {
			t.Errorf("PutInt(nil, %d) = %x, want %x", x.n, got, x.want)
		}
	}
}

func TestIntsComeBack(t *testing.T) {
	for _, n := range sampleInts() {
		b := impl.PutInt([]byte{0xff, 0x80}, n)
		if want := binary.AppendVarint([]byte{0xff, 0x80}, int64(n)); !bytes.Equal(b, want) {
			t.Errorf("PutInt of %d: %x, want %x", n, b, want)
		}
		got, next, ok := impl.GetInt(append(b, 0x81), 2)
		if got != n || next != len(b) || !ok {
			t.Errorf("GetInt of %d: %d %d %v", n, got, next, ok)
		}
	}
}

func TestIntsBeyondTheMostCountAsIt(t *testing.T) {
	for _, x := range []struct{ n, want int }{
		{impl.MaxInt + 1, impl.MaxInt}, {math.MaxInt64, impl.MaxInt},
		{-impl.MaxInt - 1, -impl.MaxInt}, {math.MinInt64, -impl.MaxInt}, {math.MinInt64 + 1, -impl.MaxInt},
	} {
		b := impl.PutInt(nil, x.n)
		if n, next, ok := impl.GetInt(b, 0); n != x.want || next != len(b) || !ok {
			t.Errorf("PutInt of %d tells %d %d %v, want %d", x.n, n, next, ok, x.want)
		}
	}
}

func TestIntsAreOneBehindTheOther(t *testing.T) {
	var b []byte
	for _, n := range sampleInts() {
		b = impl.PutInt(b, n)
	}
	at := 0
	for i, want := range sampleInts() {
		n, next, ok := impl.GetInt(b, at)
		if n != want || !ok {
			t.Fatalf("number %d: %d %v, want %d", i, n, ok, want)
		}
		at = next
	}
	if at != len(b) {
		t.Errorf("the last ends at %d of %d", at, len(b))
	}
}

func TestGetIntRefuses(t *testing.T) {
	for _, x := range []struct {
		why string
		b   string
		at  int
	}{
		{"nothing there", "", 0}, {"below 0", "\x02", -1}, {"far below 0", "\x02", math.MinInt64},
		{"at the end", "\x02", 1}, {"past the end", "\x02", 2}, {"far past the end", "\x02", math.MaxInt64},
		{"ends early", "\x80", 0}, {"ends early behind one", "\x02\xff", 1}, {"ends early of many", strings.Repeat("\x80", 30), 0},
		{"last group 0", "\x80\x00", 0}, {"last group 0 of three", "\x81\x80\x00", 0}, {"last group 0 of many", strings.Repeat("\x80", 30) + "\x00", 0},
		{"one above the most", "\x82\xc0\xa8\xca\x9a\x3a", 0}, {"one below the least", "\x81\xc0\xa8\xca\x9a\x3a", 0},
		{"six full groups", "\xff\xff\xff\xff\xff\x7f", 0}, {"seven groups", "\x80\x80\x80\x80\x80\x80\x01", 0},
		{"ten groups", "\xff\xff\xff\xff\xff\xff\xff\xff\xff\x01", 0}, {"groups whose bits fall out", strings.Repeat("\x80", 9) + "\x02", 0},
		{"groups far out", strings.Repeat("\x80", 40) + "\x01", 0},
	} {
		if n, next, ok := impl.GetInt([]byte(x.b), x.at); n != 0 || next != 0 || ok {
			t.Errorf("%s: %d %d %v", x.why, n, next, ok)
		}
	}
}

func TestGetIntReadsNothingBehindTheLength(t *testing.T) {
	whole := []byte{0x80, 0x01}
	if n, next, ok := impl.GetInt(whole[:1], 0); n != 0 || next != 0 || ok {
		t.Errorf("%d %d %v", n, next, ok)
	}
}

func TestGetIntOfCutNumbers(t *testing.T) {
	for _, n := range sampleInts() {
		b := impl.PutInt(nil, n)
		for cut := range b {
			if got, next, ok := impl.GetInt(b[:cut], 0); got != 0 || next != 0 || ok {
				t.Errorf("%d cut to %d bytes: %d %d %v", n, cut, got, next, ok)
			}
		}
	}
}

// plainInt reads a number by the library's own means.
func plainInt(b []byte) (int, int, bool) {
	n, size := binary.Varint(b)
	if size <= 0 || size > 1 && b[size-1] == 0 || n > impl.MaxInt || n < -impl.MaxInt {
		return 0, 0, false
	}
	return int(n), size, true
}

func TestGetIntOfEveryShortList(t *testing.T) {
	check := func(b []byte) {
		n, next, ok := impl.GetInt(b, 0)
		if wantN, wantNext, want := plainInt(b); n != wantN || next != wantNext || ok != want {
			t.Fatalf("%x: %d %d %v, want %d %d %v", b, n, next, ok, wantN, wantNext, want)
		}
		if ok && !bytes.Equal(impl.PutInt(nil, n), b[:next]) {
			t.Fatalf("%x: another form of %d", b[:next], n)
		}
	}
	for a := range 256 {
		check([]byte{byte(a)})
		for c := range 256 {
			check([]byte{byte(a), byte(c)})
			check([]byte{0x81, byte(a), byte(c)})
			check([]byte{0x80, 0xc0, 0xa8, 0xca, byte(a), byte(c)})
		}
	}
}

var sampleTexts = []string{
	"", "a", "abc", "\x00", "with blank\nand line", "zwölf Boxkämpfer", "\u65e5\u672c\U0001f600",
	"\ufffd", "\xff", "a\xc3", "\xef\xbf", "\xf0\x9f\x98b\x80\x80", "\xed\xa0\x80", strings.Repeat("x", 63), strings.Repeat("y", 64), strings.Repeat("\xe9\xc3\xa9", 3000),
}

func TestTextsComeBack(t *testing.T) {
	for _, s := range sampleTexts {
		b := impl.PutText([]byte{7}, s)
		want := "\x07" + string(binary.AppendVarint(nil, int64(len(s)))) + s
		if string(b) != want {
			t.Errorf("PutText of %q: %x, want %x", s, b, want)
		}
		got, next, ok := impl.GetText(append(b, 'z'), 1)
		if got != s || next != len(b) || !ok {
			t.Errorf("GetText of %q: %q %d %v", s, got, next, ok)
		}
	}
}

func TestTextsAreOneBehindTheOther(t *testing.T) {
	var b []byte
	for _, s := range sampleTexts {
		b = impl.PutText(b, s)
	}
	at := 0
	for _, want := range sampleTexts {
		s, next, ok := impl.GetText(b, at)
		if s != want || !ok {
			t.Fatalf("%q %v, want %q", s, ok, want)
		}
		at = next
	}
	if at != len(b) {
		t.Errorf("the last ends at %d of %d", at, len(b))
	}
}

func TestGetTextRefuses(t *testing.T) {
	for _, x := range []struct {
		why string
		b   string
		at  int
	}{
		{"nothing there", "", 0}, {"below 0", "\x02a", -1}, {"at the end", "\x02a", 2}, {"past the end", "\x02a", 3},
		{"far out", "\x02a", math.MaxInt64}, {"far below", "\x02a", math.MinInt64},
		{"a length below 0", "\x01abc", 0}, {"a length far below 0", "\xff\xbf\xa8\xca\x9a\x3a", 0},
		{"one byte short", "\x08abc", 0}, {"none of its bytes", "\x02", 0}, {"the longest", "\x80\xc0\xa8\xca\x9a\x3aabc", 0},
		{"the number ends early", "\x80", 0}, {"last group 0", "\x82\x00a", 0}, {"beyond the most", "\xff\xff\xff\xff\xff\x7fa", 0},
	} {
		if s, next, ok := impl.GetText([]byte(x.b), x.at); s != "" || next != 0 || ok {
			t.Errorf("%s: %q %d %v", x.why, s, next, ok)
		}
	}
	whole := impl.PutText(nil, "abc")
	if s, next, ok := impl.GetText(whole[:3], 0); s != "" || next != 0 || ok {
		t.Errorf("bytes behind the length were read: %q %d %v", s, next, ok)
	}
}

func TestCrc(t *testing.T) {
	for _, x := range []struct {
		s    string
		want int
	}{{"", 0}, {"\x00", 0xd202ef8d}, {"\xff", 0xff000000}, {"a", 0xe8b7be43}, {"123456789", 0xcbf43926}} {
		if got := impl.Crc([]byte(x.s)); got != x.want {
			t.Errorf("Crc of %q: %x, want %x", x.s, got, x.want)
		}
	}
	b := []byte{}
	for i := range 700 {
		b = append(b, byte(i*i/3))
		if got, want := impl.Crc(b), int(crc32.ChecksumIEEE(b)); got != want {
			t.Fatalf("Crc of %d bytes: %x, want %x", len(b), got, want)
		}
	}
}

var sampleBodies = []string{"", "\x00", "\xff", "123456789", "a body\nof lines", strings.Repeat("\x80", 63), strings.Repeat("q", 64), strings.Repeat("\x01\xfe", 5000)}

func TestFrameForms(t *testing.T) {
	for _, x := range []struct{ body, want string }{
		{"", "\x00\x00\x00\x00\x00"}, {"a", "\x02a\x43\xbe\xb7\xe8"}, {"123456789", "\x12123456789\x26\x39\xf4\xcb"},
	} {
		if got := impl.Frame([]byte(x.body)); string(got) != x.want {
			t.Errorf("Frame of %q: %x, want %x", x.body, got, x.want)
		}
	}
}

func TestBodiesComeBack(t *testing.T) {
	all := []byte{9, 9}
	for _, body := range sampleBodies {
		all = append(all, impl.Frame([]byte(body))...)
	}
	at := 2
	for _, want := range sampleBodies {
		body, next, code := impl.Unframe(all, at)
		if string(body) != want || next != at+len(impl.Frame([]byte(want))) || code != impl.FrameGood {
			t.Fatalf("at %d: %q %d %d", at, body, next, code)
		}
		at = next
	}
	if _, next, code := impl.Unframe(all, at); at != len(all) || next != at || code != impl.FrameEnd {
		t.Errorf("behind the last: %d %d %d", at, next, code)
	}
}

func TestTurnedBitsAreTold(t *testing.T) {
	for _, body := range []string{"x", "123456789", strings.Repeat("\x00", 100)} {
		frame := impl.Frame([]byte(body))
		head := len(frame) - len(body) - 4
		for i := head; i < len(frame); i++ {
			for bit := range 8 {
				bad := bytes.Clone(frame)
				bad[i] ^= 1 << bit
				if got, next, code := impl.Unframe(bad, 0); len(got) != 0 || next != 0 || code != impl.FrameSum {
					t.Errorf("bit %d of byte %d of %q: %x %d %d", bit, i, body, got, next, code)
				}
			}
		}
	}
}

func TestFramesThatEndEarly(t *testing.T) {
	for _, body := range []string{"", "x", "123456789", strings.Repeat("w", 300)} {
		frame := append([]byte{1, 2, 3}, impl.Frame([]byte(body))...)
		for end := 3; end < len(frame); end++ {
			if got, next, code := impl.Unframe(frame[:end], 3); len(got) != 0 || next != 3 || code != impl.FrameEnd {
				t.Errorf("%q cut at %d: %x %d %d", body, end, got, next, code)
			}
		}
	}
}

func TestUnframeRefuses(t *testing.T) {
	good := string(impl.Frame([]byte("abc")))
	for _, x := range []struct {
		why  string
		b    string
		at   int
		code int
	}{
		{"below 0", good, -1, impl.FrameForm}, {"far below 0", good, math.MinInt64, impl.FrameForm},
		{"at the end", good, 8, impl.FrameEnd}, {"nothing there", "", 0, impl.FrameEnd},
		{"past the end", good, 9, impl.FrameForm}, {"past the end of nothing", "", 1, impl.FrameForm}, {"far past the end", good, math.MaxInt64, impl.FrameForm},
		{"a length below 0", "\x01abcdefgh", 0, impl.FrameForm}, {"a length below 0, and the end", "\x01", 0, impl.FrameForm},
		{"a length far below 0", "\xff\xbf\xa8\xca\x9a\x3a", 0, impl.FrameForm},
		{"last group 0", "\x80\x00\x00\x00\x00\x00", 0, impl.FrameForm}, {"last group 0, and the end", "\x80\x00", 0, impl.FrameForm},
		{"beyond the most", "\x82\xc0\xa8\xca\x9a\x3a", 0, impl.FrameForm}, {"seven groups", "\x80\x80\x80\x80\x80\x80\x01", 0, impl.FrameForm},
		{"the number ends early", "\x80", 0, impl.FrameEnd}, {"the number ends early behind five", "\x80\x80\x80\x80\x80", 0, impl.FrameEnd},
		{"five full groups, and the end", "\xff\xff\xff\xff\xff", 0, impl.FrameEnd}, {"five behind one", "\x02\x80\x80\x80\x80\x80", 1, impl.FrameEnd},
		{"six groups and more to come", "\x80\x80\x80\x80\x80\x80", 0, impl.FrameForm}, {"six full groups and more to come", "\xff\xff\xff\xff\xff\xff", 0, impl.FrameForm},
		{"six behind one", "\x02\x80\x80\x80\x80\x80\x80", 1, impl.FrameForm}, {"seven groups, the last 0", "\x80\x80\x80\x80\x80\x80\x00", 0, impl.FrameForm},
		{"groups without an end", strings.Repeat("\xff", 30), 0, impl.FrameForm}, {"empty groups without an end", strings.Repeat("\x80", 9), 0, impl.FrameForm},
		{"the longest", "\x80\xc0\xa8\xca\x9a\x3aabcdefgh", 0, impl.FrameEnd},
		{"no sum", "\x00", 0, impl.FrameEnd}, {"half a sum", "\x02a\x43\xbe\xb7", 0, impl.FrameEnd},
		{"another sum of nothing", "\x00\x00\x00\x00\x01", 0, impl.FrameSum}, {"the sum turned round", "\x02a\xe8\xb7\xbe\x43", 0, impl.FrameSum},
	} {
		if body, next, code := impl.Unframe([]byte(x.b), x.at); len(body) != 0 || next != x.at || code != x.code {
			t.Errorf("%s: %x %d %d, want %d", x.why, body, next, code, x.code)
		}
	}
	whole := []byte(good)
	if _, next, code := impl.Unframe(whole[:7], 0); next != 0 || code != impl.FrameEnd {
		t.Errorf("bytes behind the length were read: %d %d", next, code)
	}
}

// couldBeNumber asks whether one more group that ends the number makes one of a beginning of groups.
func couldBeNumber(groups []byte) bool {
	for last := range 128 {
		if _, _, ok := impl.GetInt(append(bytes.Clone(groups), byte(last)), 0); ok {
			return true
		}
	}
	return false
}

func TestUnframeOfNumbersWithoutEnd(t *testing.T) {
	for size := 1; size <= 12; size++ {
		for _, group := range []byte{0x80, 0x81, 0xc0, 0xfe, 0xff} {
			groups := bytes.Repeat([]byte{group}, size)
			want := impl.FrameForm
			if couldBeNumber(groups) {
				want = impl.FrameEnd
			}
			if body, next, code := impl.Unframe(groups, 0); len(body) != 0 || next != 0 || code != want {
				t.Errorf("%x: %x %d %d, want %d", groups, body, next, code, want)
			}
		}
	}
}

func TestPuttingLeavesItsArgument(t *testing.T) {
	puts := map[string]func([]byte) []byte{
		"PutInt":  func(b []byte) []byte { return impl.PutInt(b, 64) },
		"PutText": func(b []byte) []byte { return impl.PutText(b, "text") },
		"no text": func(b []byte) []byte { return impl.PutText(b, "") },
		"Frame":   impl.Frame,
		"Crc":     func(b []byte) []byte { impl.Crc(b); return nil },
	}
	for name, put := range puts {
		b, room := spare("ahead")
		got := put(b)
		if !roomKept(room, "ahead") {
			t.Errorf("%s wrote into its argument: %x", name, room)
		}
		got = got[:cap(got)]
		for i := range got {
			got[i] = 0x55
		}
		if !roomKept(room, "ahead") {
			t.Errorf("%s shares its answer with its argument", name)
		}
	}
}

func TestReadingLeavesItsArgument(t *testing.T) {
	frame := string(impl.Frame([]byte("abc")))
	b, room := spare(frame)
	body, _, _ := impl.Unframe(b, 0)
	impl.GetInt(b, 0)
	text, _, _ := impl.GetText(b, 0)
	body = body[:cap(body)]
	for i := range body {
		body[i] = 0x55
	}
	if !roomKept(room, frame) {
		t.Errorf("reading wrote into its argument or shares with it: %x", room)
	}
	b[1] = 'Z'
	if text != "abc" {
		t.Errorf("the text changed with the list: %q", text)
	}
}
