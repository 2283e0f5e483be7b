package tests

import (
	"math"
	"slices"
	"testing"

	"loop.example/g00181/impl"
)

// poolPage is a page of its own for each number: its Lsn leaves room below, and it has lists in it.
func poolPage(no int) impl.Page {
	p := impl.Page{Lsn: 10 * (no + 1)}
	p.Slots[no%impl.PageSlots] = slotOf(no%99+1, []int{no, -no}, []int{no})
	p.Slots[(no+1)%impl.PageSlots] = slotOf(9, nil, []int{0, 31})
	return p
}

// poolOf has seats of these pages; the bits of hot and dirty tell of each place what it is.
func poolOf(hand int, hot int, dirty int, nos ...int) impl.Pool {
	p := impl.Pool{Hand: hand}
	for i, no := range nos {
		p.Seats = append(p.Seats, impl.Seat{No: no, P: poolPage(max(no, 0) % 30), Dirty: dirty>>i%2 == 1, Hot: hot>>i%2 == 1})
	}
	return p
}

var poolNos = [][]int{{}, {0}, {7}, {3}, {0, 7}, {7, 0}, {5, 4}, {0, 1, 2}, {2, 1, 0}, {7, 0, 3}, {5, 6, 7}}

// samplePools are of no, one, two and three seats, with each choice of who is Hot and who is Dirty, at each Hand.
func samplePools() []impl.Pool {
	var out []impl.Pool
	for _, nos := range poolNos {
		for choice := range 1 << (2 * len(nos)) {
			for hand := range 3 {
				out = append(out, poolOf(hand, choice, choice>>len(nos), nos...))
			}
		}
	}
	return out
}

// fullPools are those of three seats.
func fullPools() []impl.Pool {
	return slices.DeleteFunc(samplePools(), func(p impl.Pool) bool { return len(p.Seats) != 3 })
}

var wrongHands = []int{-1, -2, -3, 3, 4, 6, math.MaxInt64, math.MinInt64}

var wrongNos = []int{-1, -2, 8, 9, math.MaxInt64, math.MinInt64}

// wrongPools have one thing each that is not right.
func wrongPools() []impl.Pool {
	var out []impl.Pool
	for _, nos := range poolNos {
		for _, hand := range wrongHands {
			out = append(out, poolOf(hand, 0, 0, nos...), poolOf(hand, 5, 6, nos...))
		}
		for place := range nos {
			for _, no := range wrongNos {
				p := poolOf(1, 5, 3, nos...)
				p.Seats[place].No = no
				out = append(out, p)
			}
			for other := range place {
				p := poolOf(2, 3, 6, nos...)
				p.Seats[place].No = p.Seats[other].No
				out = append(out, p)
			}
		}
	}
	for hot := range 16 {
		out = append(out, poolOf(hot%3, hot, 5, 0, 1, 2, 3), poolOf(hot%3, hot, 5, 0, 1, 2, 3, 4), poolOf(hot%3, hot, 5, 0, 1, 2, 0))
	}
	out = append(out, poolOf(0, 0, 0, 0, 1, 2, 3, 4, 5, 6, 7), poolOf(0, 7, 0, 4, 4), poolOf(0, 7, 0, 4, 4, 4))
	for _, page := range wrongPages() {
		for place := range 3 {
			p := poolOf(place, 5, 3, 6, 0, 7)
			p.Seats[place].P = page
			out = append(out, p)
		}
		p := poolOf(0, 1, 0, 3)
		p.Seats[0].P = page
		out = append(out, p)
	}
	return out
}

func sameSeats(a impl.Seat, b impl.Seat) bool {
	return a.No == b.No && samePage(a.P, b.P) && a.Dirty == b.Dirty && a.Hot == b.Hot
}

func isZeroSeat(s impl.Seat) bool { return sameSeats(s, impl.Seat{}) }

func samePools(a impl.Pool, b impl.Pool) bool {
	return a.Hand == b.Hand && slices.EqualFunc(a.Seats, b.Seats, sameSeats)
}

func clonePool(p impl.Pool) impl.Pool { return impl.Pool{Seats: slices.Clone(p.Seats), Hand: p.Hand} }

// plainSeated is the first place of that number; -1, where there is none.
func plainSeated(p impl.Pool, no int) int {
	return slices.IndexFunc(p.Seats, func(s impl.Seat) bool { return s.No == no })
}

// plainVictim tells who goes from a full pool by asking who is not Hot, ahead of anything else.
func plainVictim(p impl.Pool) (impl.Pool, int) {
	out := clonePool(p)
	place := p.Hand
	for i := 2; i >= 0; i-- {
		if at := (p.Hand + i) % 3; !p.Seats[at].Hot {
			place = at
		}
	}
	if p.Seats[place].Hot {
		for i := range out.Seats {
			out.Seats[i].Hot = false
		}
	}
	for at := p.Hand; at != place; at = (at + 1) % 3 {
		out.Seats[at].Hot = false
	}
	out.Hand = []int{1, 2, 0}[place]
	return out, place
}

func TestPoolConstants(t *testing.T) {
	if impl.PoolSize != 3 || impl.Pages != 8 {
		t.Errorf("PoolSize %d, Pages %d", impl.PoolSize, impl.Pages)
	}
}

func TestPoolOk(t *testing.T) {
	for _, p := range samplePools() {
		if !impl.PoolOk(p) {
			t.Errorf("%v is one", p)
		}
	}
	for i, p := range wrongPools() {
		if impl.PoolOk(p) {
			t.Errorf("wrong pool %d is none: %v", i, p)
		}
	}
	if !impl.PoolOk(impl.Pool{}) || !impl.PoolOk(impl.Pool{Seats: []impl.Seat{}}) {
		t.Error("a pool with no seats is one")
	}
}

func TestPoolOkAtTheEdges(t *testing.T) {
	for count := range 6 {
		if got := impl.PoolOk(poolOf(0, 0, 0, []int{0, 1, 2, 3, 4}[:count]...)); got != (count <= 3) {
			t.Errorf("%d seats: %v", count, got)
		}
	}
	for hand := -4; hand <= 7; hand++ {
		for _, nos := range poolNos {
			// The Hand may be at a place that has no seat yet.
			if got := impl.PoolOk(poolOf(hand, 0, 0, nos...)); got != (hand >= 0 && hand <= 2) {
				t.Errorf("Hand %d of %d seats: %v", hand, len(nos), got)
			}
		}
	}
	for first := -3; first <= 10; first++ {
		for second := -3; second <= 10; second++ {
			right := first >= 0 && first <= 7 && second >= 0 && second <= 7
			if got := impl.PoolOk(poolOf(0, 0, 0, first, second)); got != (right && first != second) {
				t.Errorf("seats of %d and %d: %v", first, second, got)
			}
			want := right && first != second && first != 4 && second != 4
			for _, nos := range [][]int{{first, 4, second}, {4, first, second}, {first, second, 4}} {
				if got := impl.PoolOk(poolOf(0, 0, 0, nos...)); got != want {
					t.Errorf("seats of %v: %v", nos, got)
				}
			}
		}
	}
	for _, lsn := range append(slices.Clone(sampleLsns), wrongLsns...) {
		if got := impl.PoolOk(impl.Pool{Seats: []impl.Seat{{P: impl.Page{Lsn: lsn}}}}); got != (lsn >= 0 && lsn <= impl.MaxLsn) {
			t.Errorf("a page with Lsn %d: %v", lsn, got)
		}
	}
}

var askedNos = []int{0, 1, 2, 3, 4, 5, 6, 7, 8, 9, -1, -2, math.MaxInt64, math.MinInt64}

// The chapter names no pool that Seated refuses, so what stands in a pool that is none is told, too.
func TestSeated(t *testing.T) {
	p := poolOf(1, 0, 7, 7, 0, 3)
	for no, want := range map[int]int{7: 0, 0: 1, 3: 2, 1: -1, 2: -1, 4: -1, 6: -1, 8: -1, -1: -1, math.MaxInt64: -1, math.MinInt64: -1} {
		if got := impl.Seated(p, no); got != want {
			t.Errorf("Seated of %d: %d, want %d", no, got, want)
		}
	}
	for _, p := range append(samplePools(), wrongPools()...) {
		for _, no := range askedNos {
			if got := impl.Seated(p, no); got != plainSeated(p, no) {
				t.Errorf("Seated of %d in %v: %d", no, p, got)
			}
		}
	}
	if got := impl.Seated(poolOf(0, 0, 0, 4, 5, 5), 5); got != 1 {
		t.Errorf("the first of two seats of one page: %d", got)
	}
}

func TestVictimForms(t *testing.T) {
	for _, x := range []struct{ hand, hot, place, next, left int }{
		{0, 0b000, 0, 1, 0b000}, {1, 0b000, 1, 2, 0b000}, {2, 0b000, 2, 0, 0b000},
		{0, 0b111, 0, 1, 0b000}, {1, 0b111, 1, 2, 0b000}, {2, 0b111, 2, 0, 0b000},
		{0, 0b001, 1, 2, 0b000}, {0, 0b011, 2, 0, 0b000}, {0, 0b110, 0, 1, 0b110}, {0, 0b101, 1, 2, 0b100},
		{1, 0b001, 1, 2, 0b001}, {1, 0b010, 2, 0, 0b000}, {1, 0b011, 2, 0, 0b001}, {1, 0b110, 0, 1, 0b000},
		{2, 0b100, 0, 1, 0b000}, {2, 0b101, 1, 2, 0b000}, {2, 0b011, 2, 0, 0b011}, {2, 0b110, 0, 1, 0b010},
	} {
		got, place := impl.Victim(poolOf(x.hand, x.hot, 5, 7, 0, 3))
		if want := poolOf(x.next, x.left, 5, 7, 0, 3); place != x.place || !samePools(got, want) {
			t.Errorf("Hand %d, Hot %03b: place %d, %v; want %d, %v", x.hand, x.hot, place, got, x.place, want)
		}
	}
}

func TestVictim(t *testing.T) {
	pools := fullPools()
	if len(pools) != 4*64*3 {
		t.Fatalf("%d full pools", len(pools))
	}
	for _, p := range pools {
		got, place := impl.Victim(p)
		want, wantPlace := plainVictim(p)
		if place != wantPlace || !samePools(got, want) || !impl.PoolOk(got) {
			t.Errorf("Victim of %v: %d, %v; want %d, %v", p, place, got, wantPlace, want)
		}
	}
}

func TestVictimRefuses(t *testing.T) {
	check := func(p impl.Pool) {
		t.Helper()
		if got, place := impl.Victim(p); place != -1 || !samePools(got, p) {
			t.Errorf("Victim of %v: %d, %v", p, place, got)
		}
	}
	for _, p := range samplePools() {
		if len(p.Seats) < 3 {
			check(p)
		}
	}
	for _, p := range wrongPools() {
		check(p)
	}
}

// hotOf are the pages that were used of late.
func hotOf(p impl.Pool) []int {
	var out []int
	for _, s := range p.Seats {
		if s.Hot {
			out = append(out, s.No)
		}
	}
	return out
}

func TestWhoGoesWasNotUsedOfLateOrAllWere(t *testing.T) {
	for _, p := range fullPools() {
		hot := hotOf(p)
		for no := range impl.Pages {
			n, gone, went := impl.Bring(p, no, poolPage(no))
			if plainSeated(p, no) >= 0 {
				continue
			}
			if !went || slices.Contains(hot, gone.No) && len(hot) != 3 {
				t.Errorf("page %d into %v: %v went (%v)", no, p, gone, went)
			}
			if impl.Seated(n, gone.No) != -1 || plainSeated(p, gone.No) < 0 {
				t.Errorf("page %d into %v: %v is still there, or never was", no, p, gone)
			}
		}
		for _, s := range p.Seats {
			used := impl.Used(p, s.No)
			if _, place := impl.Victim(used); used.Seats[place].No == s.No && len(hotOf(used)) != 3 {
				t.Errorf("%d was used just now, and goes from %v", s.No, used)
			}
		}
	}
}

// The pages come one behind the other; where none is used between they go as they came; who is used is passed over once, unless all were.
func TestPagesComeAndGo(t *testing.T) {
	for _, x := range []struct {
		used map[int]int
		gone []int
		left []int
	}{
		{nil, []int{0, 1, 2, 3, 4}, []int{6, 7, 5}},
		{map[int]int{4: 1}, []int{0, 2, 1, 3, 4}, []int{6, 5, 7}},
		{map[int]int{4: 2}, []int{0, 1, 2, 3, 4}, []int{6, 7, 5}},
		{map[int]int{3: 0}, []int{0, 1, 2, 3, 4}, []int{6, 7, 5}},
		{map[int]int{4: 1, 5: 1}, []int{0, 2, 3, 1, 4}, []int{5, 6, 7}},
	} {
		var p impl.Pool
		var gone, left []int
		for no := range impl.Pages {
			if used, ok := x.used[no]; ok {
				p = impl.Used(p, used)
			}
			n, old, went := impl.Bring(p, no, poolPage(no))
			if went != (no >= 3) {
				t.Fatalf("page %d: %v, %v", no, old, went)
			}
			if went {
				gone = append(gone, old.No)
			}
			p = n
		}
		for _, s := range p.Seats {
			left = append(left, s.No)
		}
		if !slices.Equal(gone, x.gone) || !slices.Equal(left, x.left) {
			t.Errorf("used %v: %v went, %v are left, want %v and %v", x.used, gone, left, x.gone, x.left)
		}
	}
}

func TestBringWhereThereIsRoom(t *testing.T) {
	for _, p := range samplePools() {
		if len(p.Seats) == 3 {
			continue
		}
		for no := range impl.Pages {
			if plainSeated(p, no) >= 0 {
				continue
			}
			for _, page := range []impl.Page{{}, poolPage(no), poolPage(no + 1), {Lsn: impl.MaxLsn}} {
				want := clonePool(p)
				want.Seats = append(want.Seats, impl.Seat{No: no, P: page, Hot: true})
				got, gone, went := impl.Bring(p, no, page)
				if went || !isZeroSeat(gone) || !samePools(got, want) || !impl.PoolOk(got) {
					t.Errorf("page %d into %v: %v, %v, %v", no, p, got, gone, went)
				}
			}
		}
	}
}

func TestBringWhereThereIsNone(t *testing.T) {
	for _, p := range fullPools() {
		for no := range impl.Pages {
			if plainSeated(p, no) >= 0 {
				continue
			}
			for _, page := range []impl.Page{{}, poolPage(no), {Lsn: impl.MaxLsn}} {
				want, place := plainVictim(p)
				wantGone := want.Seats[place]
				want.Seats[place] = impl.Seat{No: no, P: page, Hot: true}
				got, gone, went := impl.Bring(p, no, page)
				if !went || !sameSeats(gone, wantGone) || gone.Hot || gone.Dirty != p.Seats[place].Dirty || !samePools(got, want) || !impl.PoolOk(got) {
					t.Errorf("page %d into %v: %v, %v, %v", no, p, got, gone, went)
				}
			}
		}
	}
}

// checkNotBrought asks for p as it was, the zero Seat and false.
func checkNotBrought(t *testing.T, p impl.Pool, no int, page impl.Page) {
	t.Helper()
	if got, gone, went := impl.Bring(p, no, page); went || !isZeroSeat(gone) || !samePools(got, p) {
		t.Errorf("page %d into %v: %v, %v, %v", no, p, got, gone, went)
	}
}

func TestBringRefuses(t *testing.T) {
	for _, p := range samplePools() {
		for _, no := range wrongNos {
			checkNotBrought(t, p, no, poolPage(1))
		}
		for _, s := range p.Seats {
			checkNotBrought(t, p, s.No, s.P)
			checkNotBrought(t, p, s.No, impl.Page{Lsn: impl.MaxLsn})
			checkNotBrought(t, p, s.No, impl.Page{Lsn: -1})
		}
	}
	for _, p := range []impl.Pool{{}, poolOf(1, 1, 1, 0), poolOf(2, 3, 1, 7, 0, 3), poolOf(0, 7, 7, 5, 6, 7), poolOf(1, 0, 0, 5, 6, 7)} {
		for _, page := range wrongPages() {
			checkNotBrought(t, p, 4, page)
			checkNotBrought(t, p, 0, page)
			checkNotBrought(t, p, 8, page)
		}
	}
	for _, p := range wrongPools() {
		for _, no := range askedNos {
			checkNotBrought(t, p, no, poolPage(2))
		}
		checkNotBrought(t, p, 4, impl.Page{Lsn: -1})
	}
}

// The chapter names no pool that Used and Clean refuse, but for one that has no seat of the page: in another the first seat of the page is meant.
func TestUsedAndClean(t *testing.T) {
	for _, p := range append(samplePools(), wrongPools()...) {
		for _, no := range askedNos {
			used, clean := clonePool(p), clonePool(p)
			if place := plainSeated(p, no); place >= 0 {
				used.Seats[place].Hot = true
				clean.Seats[place].Dirty = false
			}
			if got := impl.Used(p, no); !samePools(got, used) {
				t.Errorf("Used of %d in %v: %v", no, p, got)
			}
			if got := impl.Clean(p, no); !samePools(got, clean) {
				t.Errorf("Clean of %d in %v: %v", no, p, got)
			}
		}
	}
}

func TestUsedAndCleanForms(t *testing.T) {
	p := poolOf(1, 0b001, 0b110, 7, 0, 3)
	for no, want := range map[int]impl.Pool{
		7: poolOf(1, 0b001, 0b110, 7, 0, 3), 0: poolOf(1, 0b011, 0b110, 7, 0, 3), 3: poolOf(1, 0b101, 0b110, 7, 0, 3), 1: p, 8: p, -1: p,
	} {
		if got := impl.Used(p, no); !samePools(got, want) {
			t.Errorf("Used of %d: %v", no, got)
		}
	}
	for no, want := range map[int]impl.Pool{
		7: poolOf(1, 0b001, 0b110, 7, 0, 3), 0: poolOf(1, 0b001, 0b100, 7, 0, 3), 3: poolOf(1, 0b001, 0b010, 7, 0, 3), 1: p, 8: p, -1: p,
	} {
		if got := impl.Clean(p, no); !samePools(got, want) {
			t.Errorf("Clean of %d: %v", no, got)
		}
	}
	for _, no := range askedNos {
		if !samePools(impl.Used(impl.Pool{Hand: 2}, no), impl.Pool{Hand: 2}) || !samePools(impl.Clean(impl.Pool{Hand: 2}, no), impl.Pool{Hand: 2}) {
			t.Errorf("%d has no seat where there are none", no)
		}
	}
}

// changedPages are pages with the same Lsn, a greater one, and the greatest.
func changedPages(lsn int) []impl.Page {
	same, more := poolPage(2), poolPage(3)
	same.Lsn, more.Lsn = lsn, lsn+1
	return []impl.Page{{Lsn: lsn}, same, more, {Lsn: lsn + 9}, {Lsn: impl.MaxLsn}}
}

func TestChange(t *testing.T) {
	for _, p := range samplePools() {
		for place, s := range p.Seats {
			for _, page := range changedPages(s.P.Lsn) {
				want := clonePool(p)
				want.Seats[place] = impl.Seat{No: s.No, P: page, Dirty: true, Hot: true}
				got, ok := impl.Change(p, s.No, page)
				if !ok || !samePools(got, want) || !impl.PoolOk(got) {
					t.Errorf("page %d of %v: %v, %v", s.No, p, got, ok)
				}
			}
		}
	}
}

// checkNotChanged asks for p as it was, and false.
func checkNotChanged(t *testing.T, p impl.Pool, no int, page impl.Page) {
	t.Helper()
	if got, ok := impl.Change(p, no, page); ok || !samePools(got, p) {
		t.Errorf("page %d of %v, Lsn %d: %v, %v", no, p, page.Lsn, got, ok)
	}
}

func TestChangeRefuses(t *testing.T) {
	for _, p := range samplePools() {
		for _, s := range p.Seats {
			for _, lsn := range []int{s.P.Lsn - 1, s.P.Lsn - 2, 0, -1, math.MinInt64, impl.MaxLsn + 1, math.MaxInt64} {
				checkNotChanged(t, p, s.No, impl.Page{Lsn: lsn})
			}
		}
		for _, no := range askedNos {
			if plainSeated(p, no) < 0 {
				checkNotChanged(t, p, no, impl.Page{Lsn: impl.MaxLsn})
			}
		}
	}
	full := poolOf(1, 0, 0, 5, 6, 7)
	for _, page := range wrongPages() {
		for i := range full.Seats {
			full.Seats[i].P.Lsn = min(max(page.Lsn, 0), impl.MaxLsn)
			checkNotChanged(t, full, full.Seats[i].No, page)
		}
		checkNotChanged(t, full, 0, page)
	}
	for _, p := range wrongPools() {
		for _, no := range askedNos {
			checkNotChanged(t, p, no, impl.Page{Lsn: impl.MaxLsn})
		}
		for _, s := range p.Seats {
			checkNotChanged(t, p, s.No, poolPage(2))
		}
	}
}

func TestChangeAtTheEdgesOfLsn(t *testing.T) {
	for _, lsn := range sampleLsns {
		p := impl.Pool{Seats: []impl.Seat{{No: 6, P: impl.Page{Lsn: lsn}}}}
		for asked := lsn - 3; asked <= lsn+3; asked++ {
			got, ok := impl.Change(p, 6, impl.Page{Lsn: asked})
			if want := asked >= lsn && asked <= impl.MaxLsn; ok != want || ok && got.Seats[0].P.Lsn != asked {
				t.Errorf("Lsn %d to %d: %v, %v", lsn, asked, got, ok)
			}
		}
	}
}

// TestPoolStepByStep goes a long way of all calls, each held against the plain doing of it.
func TestPoolStepByStep(t *testing.T) {
	var p, want impl.Pool
	went := map[int]int{}
	turn := 1
	for step := range 4000 {
		turn = turn * 1103515245 % 2147483648
		turn = (turn + 12345) % 2147483648
		no, place := turn/65536%8, plainSeated(want, turn/65536%8)
		page := impl.Page{Lsn: step}
		switch do := turn / 4194304 % 5; {
		case place < 0 && len(want.Seats) < 3:
			p, _, _ = impl.Bring(p, no, page)
			want.Seats = append(want.Seats, impl.Seat{No: no, P: page, Hot: true})
		case place < 0:
			var gone impl.Seat
			p, gone, _ = impl.Bring(p, no, page)
			want, place = plainVictim(want)
			if !sameSeats(gone, want.Seats[place]) {
				t.Fatalf("step %d: %v went, not %v", step, gone, want.Seats[place])
			}
			want.Seats[place] = impl.Seat{No: no, P: page, Hot: true}
			went[place]++
		case do < 2:
			p = impl.Used(p, no)
			want.Seats[place].Hot = true
		case do < 4:
			p, _ = impl.Change(p, no, page)
			want.Seats[place] = impl.Seat{No: no, P: page, Dirty: true, Hot: true}
		default:
			p = impl.Clean(p, no)
			want.Seats[place].Dirty = false
		}
		if !samePools(p, want) || !impl.PoolOk(p) {
			t.Fatalf("step %d: %v, want %v", step, p, want)
		}
	}
	if went[0] < 100 || went[1] < 100 || went[2] < 100 {
		t.Errorf("too few went: %v", went)
	}
}

// poolRoom is a pool of count seats whose lists, all of them, have something foreign in the room behind their lengths.
func poolRoom(count int) (impl.Pool, func() bool) {
	room := make([]impl.Seat, 6)
	var rooms [][2][]int
	for i := range room {
		room[i] = impl.Seat{No: i, P: impl.Page{Lsn: 5}, Dirty: i%2 == 0, Hot: i != 1}
		for slot := range room[i].P.Slots {
			s, r := spareSlot()
			room[i].P.Slots[slot] = s
			rooms = append(rooms, r)
		}
	}
	was := slices.Clone(room)
	kept := func() bool {
		ok := slices.EqualFunc(room, was, sameSeats)
		for _, r := range rooms {
			ok = ok && roomsKept(r)
		}
		return ok
	}
	return impl.Pool{Seats: room[:count], Hand: 2}, kept
}

// scribblePool writes over all that hangs at a pool, and over the room behind each list.
func scribblePool(p impl.Pool) {
	for _, s := range p.Seats {
		scribbleSeat(s)
	}
	clear(p.Seats[:cap(p.Seats)])
}

func scribbleSeat(s impl.Seat) {
	for _, list := range listsOf(s.P) {
		scribble(list)
	}
}

// poolAnswers calls all that answers a pool.
func poolAnswers(p impl.Pool, no int, page impl.Page) ([]impl.Pool, impl.Seat) {
	victim, _ := impl.Victim(p)
	brought, gone, _ := impl.Bring(p, no, page)
	changed, _ := impl.Change(p, no, page)
	return []impl.Pool{victim, brought, changed, impl.Used(p, no), impl.Clean(p, no)}, gone
}

func TestPoolArgumentsAreLeft(t *testing.T) {
	inside, rooms := spareSlot()
	page := impl.Page{Lsn: 5}
	page.Slots[1], page.Slots[2] = inside, inside
	wrongPage := page
	wrongPage.Slots[0] = impl.Slot{O: inside.O}
	for count := range 5 {
		p, kept := poolRoom(count)
		wrong := p
		wrong.Hand = -1
		for _, p := range []impl.Pool{p, wrong} {
			for _, page := range []impl.Page{page, wrongPage, {Lsn: 4}} {
				for no := -1; no <= 8; no++ {
					answers, gone := poolAnswers(p, no, page)
					impl.PoolOk(p)
					impl.Seated(p, no)
					if !kept() || !roomsKept(rooms) {
						t.Fatalf("%d seats, page %d: an argument was written into", count, no)
					}
					for _, got := range answers {
						scribblePool(got)
					}
					scribbleSeat(gone)
					if !kept() || !roomsKept(rooms) {
						t.Fatalf("%d seats, page %d: an argument is shared", count, no)
					}
				}
			}
		}
	}
}

// poolLists are all lists of numbers of a pool's pages, and of a seat that went.
func poolLists(p impl.Pool, gone impl.Seat) [][]int {
	var out [][]int
	for _, s := range append(slices.Clone(p.Seats), gone) {
		out = append(out, listsOf(s.P)...)
	}
	return out
}

func TestPoolAnswersShareNothing(t *testing.T) {
	list := []int{1, 2, 3}
	page := impl.Page{Lsn: 5}
	for i := range page.Slots {
		page.Slots[i] = slotOf(7, list, list)
	}
	full := impl.Pool{}
	for no := range 3 {
		full.Seats = append(full.Seats, impl.Seat{No: no, P: page, Hot: no == 1})
	}
	two := impl.Pool{Seats: full.Seats[:2]}
	wrong := impl.Pool{Seats: full.Seats, Hand: 3}
	alone := func(p impl.Pool) (impl.Pool, impl.Seat) { return p, impl.Seat{} }
	bring := func(p impl.Pool, no int) (impl.Pool, impl.Seat) {
		got, gone, _ := impl.Bring(p, no, page)
		return got, gone
	}
	victim := func(p impl.Pool) (impl.Pool, impl.Seat) { got, _ := impl.Victim(p); return alone(got) }
	change := func(p impl.Pool, no int) (impl.Pool, impl.Seat) {
		got, _ := impl.Change(p, no, page)
		return alone(got)
	}
	for name, answer := range map[string]func() (impl.Pool, impl.Seat){
		"Bring":           func() (impl.Pool, impl.Seat) { return bring(full, 7) },
		"Bring, room":     func() (impl.Pool, impl.Seat) { return bring(two, 7) },
		"Bring, there":    func() (impl.Pool, impl.Seat) { return bring(full, 1) },
		"Bring, refused":  func() (impl.Pool, impl.Seat) { return bring(wrong, 7) },
		"Victim":          func() (impl.Pool, impl.Seat) { return victim(full) },
		"Victim, refused": func() (impl.Pool, impl.Seat) { return victim(two) },
		"Change":          func() (impl.Pool, impl.Seat) { return change(full, 1) },
		"Change, refused": func() (impl.Pool, impl.Seat) { return change(full, 7) },
		"Used":            func() (impl.Pool, impl.Seat) { return alone(impl.Used(full, 2)) },
		"Used, none":      func() (impl.Pool, impl.Seat) { return alone(impl.Used(full, 7)) },
		"Clean":           func() (impl.Pool, impl.Seat) { return alone(impl.Clean(full, 2)) },
		"Clean, none":     func() (impl.Pool, impl.Seat) { return alone(impl.Clean(full, 7)) },
	} {
		want := poolLists(answer())
		for i := range want {
			lists := poolLists(answer())
			scribble(lists[i])
			for j := range lists {
				if j != i && !slices.Equal(lists[j], want[j]) {
					t.Errorf("%s: list %d changed with list %d", name, j, i)
				}
			}
		}
	}
	if !slices.Equal(list, []int{1, 2, 3}) {
		t.Errorf("an answer shares memory with an argument: %v", list)
	}
}

func TestPoolCallsKeepNothing(t *testing.T) {
	p := poolOf(1, 3, 5, 7, 0, 3)
	first, firstGone := poolAnswers(p, 4, poolPage(4))
	for _, w := range wrongPools() {
		poolAnswers(w, 4, poolPage(4))
		poolAnswers(p, 4, impl.Page{Lsn: -1})
	}
	for range 2 {
		again, gone := poolAnswers(p, 4, poolPage(4))
		if !slices.EqualFunc(again, first, samePools) || !sameSeats(gone, firstGone) {
			t.Errorf("what was called ahead is seen: %v, %v", again, gone)
		}
		for _, got := range again {
			scribblePool(got)
		}
		scribbleSeat(gone)
	}
}
