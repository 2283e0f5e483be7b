package tests

import (
	"bytes"
	"encoding/binary"
	"hash/crc32"
	"math"
	"slices"
	"testing"

	"loop.example/g00181/impl"
)

func slotOf(kind int, ints []int, refs []int) impl.Slot {
	return impl.Slot{Has: true, O: impl.Obj{Kind: kind, Ints: ints, Refs: refs}}
}

// fullSlots are slots with an object each, from the shortest one to the longest.
func fullSlots() []impl.Slot {
	return []impl.Slot{
		slotOf(1, nil, nil), slotOf(99, []int{0}, nil), slotOf(64, nil, []int{31}), slotOf(7, []int{5, -1}, []int{0, 31}),
		slotOf(2, []int{mostPart, -mostPart, mostPart, -mostPart, mostPart}, []int{31, 31, 31, 31, 31}),
	}
}

// sampleSlots has nothing in it, too, in both of its forms.
func sampleSlots() []impl.Slot {
	return append(fullSlots(), impl.Slot{}, impl.Slot{O: impl.Obj{Ints: []int{}, Refs: []int{}}})
}

// wrongSlots have something but nothing is said to be there, or have what is no object.
func wrongSlots() []impl.Slot {
	out := []impl.Slot{
		{O: impl.Obj{Kind: 1}}, {O: impl.Obj{Ints: []int{0}}}, {O: impl.Obj{Refs: []int{0}}}, {O: impl.Obj{Kind: -1}},
		{O: impl.Obj{Kind: 7, Ints: []int{5, -1}, Refs: []int{0, 31}}}, {O: impl.Obj{Kind: math.MinInt64}},
	}
	for _, o := range wrongObjs() {
		out = append(out, impl.Slot{Has: true, O: o})
	}
	return out
}

var sampleLsns = []int{0, 1, 5, 63, 64, 8191, 8192, 999999, impl.MaxLsn}

var wrongLsns = []int{-1, -2, impl.MaxLsn + 1, impl.MaxLsn + 2, impl.MaxInt, math.MaxInt64, math.MinInt64}

// samplePages have no object, one in each slot by turns, and every choice of slots with objects that differ.
func samplePages() []impl.Page {
	var out []impl.Page
	full := fullSlots()
	for i, lsn := range sampleLsns {
		for choice := range 16 {
			p := impl.Page{Lsn: lsn}
			for slot := range impl.PageSlots {
				if choice>>slot%2 == 1 {
					p.Slots[slot] = full[(i+slot)%len(full)]
				}
			}
			out = append(out, p)
		}
		for slot := range impl.PageSlots {
			for _, s := range full {
				p := impl.Page{Lsn: lsn}
				p.Slots[slot] = s
				out = append(out, p)
			}
		}
	}
	return out
}

// wrongPages have one thing that is not right, wherever it may stand.
func wrongPages() []impl.Page {
	var out []impl.Page
	for _, lsn := range wrongLsns {
		p := impl.Page{Lsn: lsn}
		out = append(out, p)
		p.Slots[2] = fullSlots()[3]
		out = append(out, p)
	}
	for _, s := range wrongSlots() {
		for slot := range impl.PageSlots {
			p := impl.Page{Lsn: 5}
			p.Slots[slot] = s
			out = append(out, p)
			p.Slots[(slot+1)%impl.PageSlots] = fullSlots()[3]
			out = append(out, p)
		}
	}
	return out
}

func sameSlot(a impl.Slot, b impl.Slot) bool { return a.Has == b.Has && alike(a.O, b.O) }

func samePage(a impl.Page, b impl.Page) bool {
	for i := range a.Slots {
		if !sameSlot(a.Slots[i], b.Slots[i]) {
			return false
		}
	}
	return a.Lsn == b.Lsn
}

func isZeroPage(p impl.Page) bool { return samePage(p, impl.Page{}) }

// plainFrame frames a body by the library's own means.
func plainFrame(body []byte) []byte {
	out := append(bytesOf(len(body)), body...)
	return binary.LittleEndian.AppendUint32(out, crc32.ChecksumIEEE(body))
}

// plainSlot puts a slot's bytes, right or not, behind those of b.
func plainSlot(b []byte, s impl.Slot) []byte {
	var inside []byte
	if s.Has || !alike(s.O, impl.Obj{}) {
		inside = bytesOf(plainNumbers(s.O)...)
	}
	return append(append(b, bytesOf(len(inside))...), inside...)
}

// plainBody is what stands in a page's frame, right or not.
func plainBody(p impl.Page) []byte {
	body := bytesOf(p.Lsn)
	for _, s := range p.Slots {
		body = plainSlot(body, s)
	}
	return body
}

// plainSlotAt reads the slot at the beginning of b, and tells how many bytes it has.
func plainSlotAt(b []byte) (impl.Slot, int, bool) {
	size, head, ok := plainInt(b)
	if !ok || size < 0 || size > len(b)-head {
		return impl.Slot{}, 0, false
	}
	if size == 0 {
		return impl.Slot{}, head, true
	}
	o, ok := plainObj(b[head : head+size])
	return impl.Slot{Has: true, O: o}, head + size, ok
}

// plainPage reads a page's body: the reading that GetPage is held against.
func plainPage(body []byte) (impl.Page, bool) {
	lsn, at, ok := plainInt(body)
	if !ok || lsn < 0 || lsn > 1000000 {
		return impl.Page{}, false
	}
	p := impl.Page{Lsn: lsn}
	for i := range p.Slots {
		s, size, ok := plainSlotAt(body[at:])
		if !ok {
			return impl.Page{}, false
		}
		p.Slots[i] = s
		at += size
	}
	if at != len(body) {
		return impl.Page{}, false
	}
	return p, true
}

func TestPageLimits(t *testing.T) {
	if impl.PageSlots != 4 || impl.MaxLsn != 1000000 || len(impl.Page{}.Slots) != 4 {
		t.Errorf("limits: %d %d %d", impl.PageSlots, impl.MaxLsn, len(impl.Page{}.Slots))
	}
	for _, p := range samplePages() {
		if !impl.PageOk(p) {
			t.Errorf("%v is one", p)
		}
	}
	for _, p := range wrongPages() {
		if impl.PageOk(p) {
			t.Errorf("%v is none", p)
		}
	}
	if !impl.PageOk(impl.Page{}) {
		t.Error("the zero page has no object, and is one")
	}
}

func TestSlotsThatHaveNothing(t *testing.T) {
	for slot := range impl.PageSlots {
		p := impl.Page{Lsn: 3}
		p.Slots[slot] = impl.Slot{O: impl.Obj{Ints: []int{}, Refs: []int{}}}
		if !impl.PageOk(p) {
			t.Errorf("slot %d: an empty list and nil are the same value", slot)
		}
		if b := impl.PutPage(p); !bytes.Equal(b, impl.PutPage(impl.Page{Lsn: 3})) {
			t.Errorf("slot %d: %x", slot, b)
		}
	}
}

func TestPutPageForms(t *testing.T) {
	one, last := impl.Page{Lsn: 5}, impl.Page{Lsn: impl.MaxLsn}
	one.Slots[1] = slotOf(2, nil, nil)
	last.Slots[3] = slotOf(7, []int{5, -1}, []int{0, 31})
	all := impl.Page{Lsn: 64}
	for i := range all.Slots {
		all.Slots[i] = slotOf(i+1, nil, []int{i})
	}
	for _, x := range []struct {
		p    impl.Page
		body string
	}{
		{impl.Page{}, "\x00\x00\x00\x00\x00"},
		{impl.Page{Lsn: 1}, "\x02\x00\x00\x00\x00"},
		{one, "\x0a\x00\x06\x04\x00\x00\x00\x00"},
		{last, "\x80\x89\x7a\x00\x00\x00\x0e\x0e\x04\x0a\x01\x04\x00\x3e"},
		{all, "\x80\x01\x08\x02\x00\x02\x00\x08\x04\x00\x02\x02\x08\x06\x00\x02\x04\x08\x08\x00\x02\x06"},
	} {
		if got := impl.PutPage(x.p); !bytes.Equal(got, plainFrame([]byte(x.body))) {
			t.Errorf("PutPage of %v: %x, want the frame of %x", x.p, got, x.body)
		}
	}
	if got := impl.PutPage(impl.Page{}); string(got) != "\x0a\x00\x00\x00\x00\x00\x1d\xf7\x22\xc6" {
		t.Errorf("the zero page: %x", got)
	}
}

func TestPagesComeBackOfTheirBytes(t *testing.T) {
	seen := map[string]impl.Page{}
	for _, p := range samplePages() {
		b := impl.PutPage(p)
		if want := plainFrame(plainBody(p)); !bytes.Equal(b, want) {
			t.Errorf("PutPage of %v: %x, want %x", p, b, want)
		}
		if got, ok := impl.GetPage(b); !ok || !samePage(got, p) {
			t.Errorf("GetPage of %v: %v %v", p, got, ok)
		}
		if other, ok := seen[string(b)]; ok && !samePage(other, p) {
			t.Errorf("%v and %v have the same bytes", other, p)
		}
		seen[string(b)] = p
	}
}

func TestNothingOfWhatIsNoPage(t *testing.T) {
	for _, p := range wrongPages() {
		if b := impl.PutPage(p); len(b) != 0 {
			t.Errorf("PutPage of %v: %x", p, b)
		}
		b := plainFrame(plainBody(p))
		got, ok := impl.GetPage(b)
		want, wantOk := plainPage(plainBody(p))
		if ok != wantOk || !samePage(got, want) {
			t.Errorf("GetPage of the bytes of %v: %v %v", p, got, ok)
		}
	}
}

func TestGetPageOfBytesCutOrWithMoreBehind(t *testing.T) {
	for _, p := range samplePages() {
		b := impl.PutPage(p)
		for cut := range b {
			// The list keeps its spare room: what lies there is not to be read.
			if got, ok := impl.GetPage(b[:cut]); ok || !isZeroPage(got) {
				t.Errorf("%x cut to %d: %v %v", b, cut, got, ok)
			}
		}
		for _, more := range []string{"\x00", "\x80", "\xff\xff", string(b)} {
			if got, ok := impl.GetPage(append(bytes.Clone(b), more...)); ok || !isZeroPage(got) {
				t.Errorf("%x and %x: %v %v", b, more, got, ok)
			}
			if got, ok := impl.GetPage(append([]byte(more), b...)); ok || !isZeroPage(got) {
				t.Errorf("%x ahead of %x: %v %v", more, b, got, ok)
			}
		}
	}
}

func TestGetPageOfTurnedBits(t *testing.T) {
	for _, p := range samplePages() {
		b := impl.PutPage(p)
		for i := range b {
			for bit := range 8 {
				bad := bytes.Clone(b)
				bad[i] ^= 1 << bit
				if got, ok := impl.GetPage(bad); ok || !isZeroPage(got) {
					t.Fatalf("bit %d of byte %d of %x: %v %v", bit, i, b, got, ok)
				}
			}
		}
	}
}

// checkBody frames a body and holds what GetPage tells of it against the plain reading.
func checkBody(t *testing.T, body []byte) bool {
	t.Helper()
	got, ok := impl.GetPage(plainFrame(body))
	want, wantOk := plainPage(body)
	if ok != wantOk || !samePage(got, want) {
		t.Fatalf("the frame of %x: %v %v, want %v %v", body, got, ok, want, wantOk)
	}
	if again := impl.PutPage(got); ok && !bytes.Equal(again, plainFrame(body)) {
		t.Fatalf("the frame of %x: another form of %v, %x", body, got, again)
	}
	return ok
}

func TestGetPageOfBodiesCutOrWithMoreBehind(t *testing.T) {
	for _, p := range samplePages() {
		body := plainBody(p)
		for cut := range body {
			if checkBody(t, body[:cut]) {
				t.Errorf("the frame of %x cut to %d is no page", body, cut)
			}
		}
		for _, more := range []string{"\x00", "\x02", "\x80", "\x06\x02\x00\x00"} {
			if checkBody(t, append(bytes.Clone(body), more...)) {
				t.Errorf("the frame of %x and %x is no page", body, more)
			}
		}
	}
}

func TestGetPageOfBodiesWithTurnedBits(t *testing.T) {
	found := 0
	for _, p := range samplePages() {
		body := plainBody(p)
		for i := range body {
			for bit := range 8 {
				bad := bytes.Clone(body)
				bad[i] ^= 1 << bit
				if checkBody(t, bad) {
					found++
				}
			}
		}
	}
	if found < 100 {
		t.Errorf("only %d pages among the bodies", found)
	}
}

func TestGetPageOfEveryShortBody(t *testing.T) {
	found := 0
	var check func(body []byte, left int)
	check = func(body []byte, left int) {
		if checkBody(t, body) {
			found++
		}
		if left == 0 {
			return
		}
		for _, c := range []byte{0, 1, 2, 4, 6, 8, 0x80} {
			check(append(bytes.Clone(body), c), left-1)
		}
	}
	for _, head := range []string{"", "\x00\x00", "\x00\x06\x02\x00\x00", "\x02\x00\x00\x00\x06", "\x02\x00\x00\x00\x08"} {
		check([]byte(head), 5)
	}
	if found < 40 {
		t.Errorf("only %d pages among the bodies", found)
	}
}

func TestGetPageRefuses(t *testing.T) {
	for _, x := range []struct{ why, body string }{
		{"nothing", ""}, {"an Lsn alone", "\x00"}, {"three slots", "\x00\x00\x00\x00"}, {"five slots", "\x00\x00\x00\x00\x00\x00"},
		{"Lsn -1", "\x01\x00\x00\x00\x00"}, {"Lsn one beyond", "\x82\x89\x7a\x00\x00\x00\x00"},
		{"Lsn of MaxInt", "\x80\xc0\xa8\xca\x9a\x3a\x00\x00\x00\x00"}, {"Lsn with a needless group", "\x80\x00\x00\x00\x00\x00"},
		{"Lsn without end", "\x80"}, {"a size below 0", "\x00\x01\x00\x00\x00"}, {"a size far below 0", "\x00\xff\xbf\xa8\xca\x9a\x3a\x00\x00\x00"},
		{"a size far out", "\x00\x80\xc0\xa8\xca\x9a\x3a\x00\x00\x00"}, {"a size with a needless group", "\x00\x80\x00\x00\x00\x00"},
		{"a size without end", "\x00\x00\x00\x00\x80"}, {"a size with a needless group ahead of an object", "\x00\x86\x00\x02\x00\x00\x00\x00\x00"},
		{"one less than the object has", "\x00\x04\x02\x00\x00\x00\x00\x00"}, {"one more than the object has", "\x00\x08\x02\x00\x00\x00\x00\x00\x00"},
		{"one more than is there", "\x00\x00\x00\x00\x08\x02\x00\x00"}, {"an object without its size", "\x00\x02\x00\x00\x00\x00\x00"},
		{"size 1 of a slot that has nothing", "\x00\x02\x00\x00\x00\x00"}, {"an object of kind 0", "\x00\x06\x00\x00\x00\x00\x00\x00"},
		{"an object of kind 100", "\x00\x08\xc8\x01\x00\x00\x00\x00\x00"}, {"an object of reference 32", "\x00\x00\x00\x00\x08\x02\x00\x02\x40"},
		{"two objects in a slot", "\x00\x0c\x02\x00\x00\x02\x00\x00\x00\x00\x00"}, {"a frame in the frame", "\x0a\x00\x00\x00\x00\x00\x1d\xf7\x22\xc6"},
	} {
		if got, ok := impl.GetPage(plainFrame([]byte(x.body))); ok || !isZeroPage(got) {
			t.Errorf("%s: %v %v", x.why, got, ok)
		}
	}
	for _, b := range []string{"", "\x00", "\x80", "\x01", "\x00\x00\x00\x00\x00", "\x0a\x00\x00\x00\x00\x00", "\x8a\x00\x00\x00\x00\x00\x00\x1d\xf7\x22\xc6", "\xff\xff\xff\xff\xff\xff"} {
		if got, ok := impl.GetPage([]byte(b)); ok || !isZeroPage(got) {
			t.Errorf("%x: %v %v", b, got, ok)
		}
	}
}

func TestASlotThatIsSetIsThere(t *testing.T) {
	for _, p := range samplePages() {
		for slot := range impl.PageSlots {
			for _, s := range sampleSlots() {
				for _, lsn := range []int{p.Lsn, p.Lsn + 1, impl.MaxLsn} {
					if lsn > impl.MaxLsn {
						continue
					}
					want := p
					want.Slots[slot], want.Lsn = s, lsn
					got, ok := impl.SetSlot(p, slot, s, lsn)
					if !ok || !samePage(got, want) {
						t.Fatalf("SetSlot of %v, %d, %v, %d: %v %v", p, slot, s, lsn, got, ok)
					}
					if back, ok := impl.GetPage(impl.PutPage(got)); !ok || !samePage(back, want) {
						t.Fatalf("%v does not come back: %v %v", got, back, ok)
					}
				}
			}
		}
	}
}

func TestSlotsSetOneBehindTheOther(t *testing.T) {
	p, full := impl.Page{}, fullSlots()
	for i := range 40 {
		slot, s := i*3%impl.PageSlots, full[i%len(full)]
		if i%7 == 6 {
			s = impl.Slot{}
		}
		before := p
		got, ok := impl.SetSlot(p, slot, s, i/2)
		if !ok || got.Lsn != i/2 || !sameSlot(got.Slots[slot], s) {
			t.Fatalf("step %d: %v %v", i, got, ok)
		}
		for other := range got.Slots {
			if other != slot && !sameSlot(got.Slots[other], before.Slots[other]) {
				t.Fatalf("step %d: slot %d was not left as it was: %v", i, other, got)
			}
		}
		p = got
	}
}

// checkRefused asks for p as it was beside false.
func checkRefused(t *testing.T, p impl.Page, slot int, s impl.Slot, lsn int) {
	t.Helper()
	if got, ok := impl.SetSlot(p, slot, s, lsn); ok || !samePage(got, p) {
		t.Errorf("SetSlot of %v, %d, %v, %d: %v %v", p, slot, s, lsn, got, ok)
	}
}

func TestSetSlotRefuses(t *testing.T) {
	good := slotOf(2, []int{1}, []int{1})
	for _, p := range samplePages() {
		for _, slot := range []int{-1, -4, impl.PageSlots, impl.PageSlots + 1, math.MaxInt64, math.MinInt64} {
			checkRefused(t, p, slot, good, impl.MaxLsn)
			checkRefused(t, p, slot, impl.Slot{}, p.Lsn)
		}
		for _, lsn := range []int{p.Lsn - 1, p.Lsn - 2, -1, impl.MaxLsn + 1, impl.MaxLsn + 2, math.MaxInt64, math.MinInt64} {
			checkRefused(t, p, 0, good, lsn)
			checkRefused(t, p, impl.PageSlots-1, impl.Slot{}, lsn)
		}
		for _, s := range wrongSlots() {
			checkRefused(t, p, 0, s, impl.MaxLsn)
			checkRefused(t, p, impl.PageSlots-1, s, p.Lsn)
		}
	}
}

func TestSetSlotRefusesWhatIsNoPage(t *testing.T) {
	for _, p := range wrongPages() {
		for slot := range impl.PageSlots {
			for _, lsn := range []int{p.Lsn, 0, 5, impl.MaxLsn} {
				// A slot that is set in place of the wrong one would not make the page right ahead of it.
				checkRefused(t, p, slot, slotOf(2, []int{1}, []int{1}), lsn)
				checkRefused(t, p, slot, impl.Slot{}, lsn)
			}
		}
		checkRefused(t, p, -1, impl.Slot{}, 5)
	}
}

func TestFreeSlot(t *testing.T) {
	for choice := range 16 {
		p, want := impl.Page{Lsn: 7}, -1
		for slot := impl.PageSlots - 1; slot >= 0; slot-- {
			if choice>>slot%2 == 1 {
				p.Slots[slot] = slotOf(9, []int{choice}, nil)
			} else {
				want = slot
			}
		}
		if got := impl.FreeSlot(p); got != want {
			t.Errorf("FreeSlot of %v: %d, want %d", p, got, want)
		}
		if want < 0 {
			continue
		}
		filled, ok := impl.SetSlot(p, want, slotOf(3, nil, nil), 8)
		if next := impl.FreeSlot(filled); !ok || next != -1 && next <= want {
			t.Errorf("FreeSlot of %v: %d", filled, next)
		}
	}
}

func TestFreeSlotOfWhatIsNoPage(t *testing.T) {
	for _, p := range wrongPages() {
		want := slices.IndexFunc(p.Slots[:], func(s impl.Slot) bool { return !s.Has })
		if got := impl.FreeSlot(p); got != want {
			t.Errorf("FreeSlot of %v: %d, want %d", p, got, want)
		}
	}
}

// spareSlot is a slot whose lists have foreign numbers in the room behind their lengths.
func spareSlot() (impl.Slot, [2][]int) {
	ints, intRoom := spareInts(5, -1)
	refs, refRoom := spareInts(0, 31)
	return slotOf(7, ints, refs), [2][]int{intRoom, refRoom}
}

func roomsKept(rooms [2][]int) bool {
	return slices.Equal(rooms[0], []int{5, -1, 777, 777, 777, 777}) && slices.Equal(rooms[1], []int{0, 31, 777, 777, 777, 777})
}

func TestPageArgumentsAreLeft(t *testing.T) {
	inside, insideRooms := spareSlot()
	set, setRooms := spareSlot()
	p := impl.Page{Lsn: 5}
	p.Slots[0], p.Slots[2] = inside, inside
	wrong := p
	wrong.Slots[1] = impl.Slot{O: inside.O}
	for _, page := range []impl.Page{p, wrong} {
		impl.PageOk(page)
		impl.PutPage(page)
		impl.FreeSlot(page)
		for _, slot := range []int{-1, 0, 1, 2, 3, 4} {
			for _, lsn := range []int{4, 5, 6} {
				got, _ := impl.SetSlot(page, slot, set, lsn)
				for _, s := range got.Slots {
					scribble(s.O.Ints)
					scribble(s.O.Refs)
				}
				if !roomsKept(insideRooms) || !roomsKept(setRooms) {
					t.Fatalf("SetSlot of slot %d and Lsn %d wrote into an argument or shares with it: %v %v", slot, lsn, insideRooms, setRooms)
				}
			}
		}
	}
}

// listsOf are all lists of a page, of every slot the Ints and the Refs.
func listsOf(p impl.Page) [][]int {
	var out [][]int
	for _, s := range p.Slots {
		out = append(out, s.O.Ints, s.O.Refs)
	}
	return out
}

// checkOwnLists writes over each list by turns, and the room behind it, and looks at all others.
func checkOwnLists(t *testing.T, answer func() impl.Page) {
	t.Helper()
	want := listsOf(answer())
	for i := range want {
		lists := listsOf(answer())
		scribble(lists[i])
		for j := range lists {
			if j != i && !slices.Equal(lists[j], want[j]) {
				t.Errorf("list %d changed with list %d of one answer", j, i)
			}
		}
	}
}

func TestPageAnswersShareNothing(t *testing.T) {
	list := []int{1, 2, 3}
	p := impl.Page{Lsn: 5}
	for i := range p.Slots {
		p.Slots[i] = slotOf(7, list, list)
	}
	checkOwnLists(t, func() impl.Page { got, _ := impl.SetSlot(p, 1, p.Slots[2], 6); return got })
	checkOwnLists(t, func() impl.Page { got, _ := impl.SetSlot(p, 1, p.Slots[2], 4); return got })
	checkOwnLists(t, func() impl.Page { got, _ := impl.SetSlot(impl.Page{}, 3, p.Slots[2], 4); return got })
	checkOwnLists(t, func() impl.Page { got, _ := impl.GetPage(impl.PutPage(p)); return got })
	if !slices.Equal(list, []int{1, 2, 3}) {
		t.Errorf("an answer shares memory with an argument: %v", list)
	}
}

func TestReadingAPageLeavesItsArgument(t *testing.T) {
	p := impl.Page{Lsn: 5}
	p.Slots[1] = slotOf(7, []int{5, -1}, []int{0, 31})
	whole := string(impl.PutPage(p))
	b, room := spare(whole)
	got, ok := impl.GetPage(b)
	if !ok || !roomKept(room, whole) {
		t.Errorf("GetPage wrote into its argument: %v %x", ok, room)
	}
	clear(room)
	if !samePage(got, p) {
		t.Errorf("the answer changed with the argument: %v", got)
	}
}

func TestPageCallsKeepNothing(t *testing.T) {
	p := samplePages()[15]
	first := impl.PutPage(p)
	for _, w := range wrongPages() {
		impl.PutPage(w)
		impl.GetPage(plainFrame(plainBody(w)))
		impl.SetSlot(w, 0, impl.Slot{}, 5)
	}
	if !bytes.Equal(impl.PutPage(p), first) {
		t.Error("what was refused left something behind")
	}
	clear(first)
	if got, ok := impl.GetPage(impl.PutPage(p)); !ok || !samePage(got, p) {
		t.Errorf("an answer is kept: %v %v", got, ok)
	}
}
