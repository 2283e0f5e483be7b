package tests

import (
	"fmt"
	"math"
	"slices"
	"testing"

	"loop.example/g00181/impl"
)

// What follows, to plainSafe, is the chapter once more, by other means: what the questions are held against.

// plainTold looks for each slot's last record among those of the page that are done.
func plainTold(l impl.Log, no int, lsn int) impl.Page {
	var p impl.Page
	var done []impl.Rec
	for _, r := range l.Recs {
		changes := plainRecOk(r) && (r.Kind == 1 || r.Kind == 4) && r.Oid/4 == no
		if changes && r.Lsn > p.Lsn && r.Lsn <= lsn {
			done, p.Lsn = append(done, r), r.Lsn
		}
	}
	for slot := range p.Slots {
		for _, r := range slices.Backward(done) {
			if r.Oid%4 == slot {
				p.Slots[slot] = r.After
				break
			}
		}
	}
	return p
}

func plainAhead(e impl.Engine) bool {
	ok := true
	for no, p := range e.Disk {
		ok = ok && samePage(p, plainTold(e.Log, no, p.Lsn))
	}
	for _, s := range e.Pool.Seats {
		ok = ok && samePage(s.P, plainTold(e.Log, s.No, s.P.Lsn))
	}
	return ok
}

// plainHeld looks for a record of each hold, and for a hold of each record.
func plainHeld(e impl.Engine) bool {
	for _, h := range e.Holds {
		tells := func(r impl.Rec) bool { return r.Kind == 1 && r.Tx == h.Tx && r.Oid == h.Oid }
		if plainLive(e, h.Tx) < 0 || !slices.ContainsFunc(e.Log.Recs, tells) {
			return false
		}
	}
	for _, r := range e.Log.Recs {
		if r.Kind == 1 && plainLive(e, r.Tx) >= 0 && !slices.Contains(e.Holds, impl.Hold{Tx: r.Tx, Oid: r.Oid}) {
			return false
		}
	}
	return true
}

func plainLasting(e impl.Engine) bool {
	view, up := plainUnheld(e), true
	if e.Down {
		e, up = plainRestart(e, 100000)
		view = viewOf(e)
	}
	return up && sameViews(view, plainCommitted(e.Log))
}

// safety is what the four of the chapter answer.
type safety struct {
	ahead   bool
	held    bool
	lasting bool
	safe    int
}

var allHold = safety{true, true, true, 0}

func plainSafe(e impl.Engine) safety {
	s := safety{plainAhead(e), plainHeld(e), plainLasting(e), 0}
	s.safe = 1 + slices.Index([]bool{plainEngineOk(e), s.ahead, s.held, s.lasting}, false)
	return s
}

func safetyOf(e impl.Engine) safety {
	return safety{impl.Ahead(e), impl.Held(e), impl.Lasting(e), impl.Safe(e)}
}

// checkSafe holds the questions against the plain asking of them, and asks that the engine is as it was.
func checkSafe(t *testing.T, why string, e impl.Engine) safety {
	t.Helper()
	was := deepEngine(e)
	got, want := safetyOf(e), plainSafe(was)
	if got != want {
		t.Fatalf("%s: %+v, want %+v: %+v", why, got, want, brief(was))
	}
	if !sameEngines(e, was) {
		t.Fatalf("%s: its argument changed: %+v", why, brief(e))
	}
	return got
}

func checkSafety(t *testing.T, why string, e impl.Engine, want safety) {
	t.Helper()
	if got := checkSafe(t, why, e); got != want {
		t.Fatalf("%s: %+v, must be %+v: %+v", why, got, want, brief(e))
	}
}

// checkAllHold asks what the promise says.
func checkAllHold(t *testing.T, why string, e impl.Engine) {
	t.Helper()
	checkSafety(t, why, e, allHold)
}

func TestSafeOfLittleEngines(t *testing.T) {
	checkAllHold(t, "EngineNew", impl.EngineNew())
	for _, next := range []int{1, 2, impl.MaxTx, impl.MaxTx + 1} {
		checkAllHold(t, "nothing in it", impl.Engine{Next: next})
		checkAllHold(t, "nothing in it, and down", impl.Engine{Next: next, Down: true})
	}
	for why, calls := range map[string][]engCall{
		"under way alone":             {begin(), begin()},
		"seats alone":                 {get(1), get(5), get(9), get(13)},
		"records alone":               {check(), check()},
		"under way, and seats":        {begin(), get(31), check()},
		"ended, and nothing was done": {begin(), begin(), commit(1), abort(2)},
		"set to nothing":              {begin(), set(1, 5, impl.Slot{})},
		"one that is held":            {begin(), set(1, 1, numbered(1))},
		"one that is there":           {begin(), set(1, 1, numbered(1)), commit(1)},
		"one that was there":          {begin(), set(1, 1, numbered(1)), abort(1)},
		"one that is written":         {begin(), set(1, 31, numbered(1)), flush(7)},
	} {
		e := engineOf(t, calls...).e
		checkAllHold(t, why, e)
		for keep := range 4 {
			checkAllHold(t, why+", and down", impl.Crash(e, keep))
		}
	}
	checkAllHold(t, "full", fullEngine(t).e)
	checkAllHold(t, "six under way", sixEngine(t))
	checkAllHold(t, "some of each", busyEngine(t))
	checkAllHold(t, "some of each, and down", downEngine(t))
	bare := fullEngine(t).then(flush(0), flush(1), flush(2), flush(3), flush(4), flush(5), flush(6), flush(7)).e
	bare.Pool = impl.Pool{}
	checkAllHold(t, "all on the disk alone", bare)
}

// tellingEngine is Down or not, as its caller wants it, with a log that tells of two pages, by records that go between one another, of what is done and undone.
func tellingEngine(t *testing.T) impl.Engine {
	t.Helper()
	return engineOf(t, begin(), begin(), set(1, 1, numbered(1)), set(2, 5, numbered(2)), set(1, 2, numbered(3)), commit(1), set(2, 6, numbered(4)), check(),
		set(2, 5, impl.Slot{}), abort(2), begin(), set(3, 1, numbered(5)), set(3, 1, numbered(1)), set(3, 31, numbered(6)), commit(3)).e
}

// A page is told where its Lsn is 0, or that of a record of its own: of each page each Lsn there is, on the disk and in a seat.
func TestAheadByLsn(t *testing.T) {
	l := impl.Force(tellingEngine(t).Log, impl.MaxRecs)
	own := map[int][]int{0: {0, 1, 3, 14, 15}, 1: {0, 2, 6, 8, 10, 11, 12}, 7: {0, 16}}
	for no := range impl.Pages {
		for lsn := range len(l.Recs) + 1 {
			p := toldPage(l, no, lsn)
			p.Lsn = lsn
			want := lsn == 0 || slices.Contains(own[no], lsn)
			disk, seat := impl.Engine{Log: l, Next: 4}, impl.Engine{Log: l, Next: 4}
			disk.Disk[no] = p
			seat.Pool.Seats = []impl.Seat{{No: no, P: p, Dirty: true}}
			both := disk
			both.Pool.Seats = []impl.Seat{{No: (no + 1) % 8, Hot: true}, {No: no, P: p, Hot: true}}
			down := disk
			down.Down = true
			for _, e := range []impl.Engine{disk, seat, both, down} {
				if got := checkSafe(t, fmt.Sprintf("page %d, Lsn %d", no, lsn), e); got.ahead != want || !want && got.safe != 2 {
					t.Errorf("page %d, Lsn %d: %+v", no, lsn, got)
				}
			}
		}
	}
}

// spoiledSlots are each something else than this slot.
func spoiledSlots(s impl.Slot) []impl.Slot {
	if !s.Has {
		return []impl.Slot{numbered(9), {O: impl.Obj{Kind: 1}}, {Has: true}, slotOf(1, nil, []int{0})}
	}
	kind, more, fewer := deepSlot(s), deepSlot(s), deepSlot(s)
	kind.O.Kind++
	more.O.Refs = append(more.O.Refs, 7)
	out := []impl.Slot{{}, kind, more}
	if len(s.O.Ints) > 0 {
		fewer.O.Ints = fewer.O.Ints[1:]
		other := deepSlot(s)
		other.O.Ints[len(other.O.Ints)-1]++
		out = append(out, fewer, other)
	}
	return out
}

// pagesOf are the pages of an engine that is asked, on the disk and in seats.
func pagesOf(e *impl.Engine) []*impl.Page {
	var out []*impl.Page
	for no := range e.Disk {
		out = append(out, &e.Disk[no])
	}
	for at := range e.Pool.Seats {
		out = append(out, &e.Pool.Seats[at].P)
	}
	return out
}

func TestAheadOfWhatDiffersAlone(t *testing.T) {
	for _, made := range []impl.Engine{busyEngine(t), downEngine(t), tellingEngine(t), fullEngine(t).e, impl.EngineNew()} {
		for at := range pagesOf(&made) {
			notAhead := func(why string, change func(p *impl.Page)) {
				e := deepEngine(made)
				change(pagesOf(&e)[at])
				if got := checkSafe(t, why, e); got.ahead || got.safe != 1 && got.safe != 2 {
					t.Errorf("page %d: %s: %+v", at, why, got)
				}
			}
			for slot, was := range pagesOf(&made)[at].Slots {
				for _, s := range spoiledSlots(was) {
					notAhead(fmt.Sprint("another slot ", slot, " alone: ", s), func(p *impl.Page) { p.Slots[slot] = s })
				}
			}
			for _, by := range []int{1, -1, impl.MaxRecs, impl.MaxLsn} {
				notAhead("another Lsn alone", func(p *impl.Page) {
					// The Lsn of another of its records would be told, but of another page.
					if p.Lsn += by; slices.ContainsFunc(made.Log.Recs, func(r impl.Rec) bool { return r.Lsn == p.Lsn }) {
						p.Slots[0] = numbered(99)
					}
				})
			}
		}
	}
}

// What is asked of is each page by its own Lsn: one that was not written since is told as well as the one in its seat.
func TestAheadOfPagesBehind(t *testing.T) {
	m := engineOf(t, begin(), set(1, 5, numbered(1)), flush(1), set(1, 5, numbered(2)), set(1, 6, numbered(3)))
	checkAllHold(t, "changed since", m.e)
	for _, no := range []int{-1, 8, 2} {
		e := deepEngine(m.e)
		e.Pool.Seats[0].No = no
		if got := checkSafe(t, "the seat of another page", e); got.ahead {
			t.Errorf("the seat of page %d: %+v", no, got)
		}
	}
	e := deepEngine(m.e)
	e.Disk[1], e.Pool.Seats[0].P = e.Pool.Seats[0].P, e.Disk[1]
	if got := checkSafe(t, "the seat is behind", e); !got.ahead {
		t.Errorf("the seat is behind: %+v", got)
	}
	e = deepEngine(m.e)
	e.Disk[2], e.Disk[1] = e.Disk[1], impl.Page{}
	if got := checkSafe(t, "written elsewhere", e); got.ahead {
		t.Errorf("written elsewhere: %+v", got)
	}
	// That of 0 is no object, so no record tells of it.
	e = deepEngine(m.e)
	e.Disk[0].Slots[0] = numbered(1)
	checkSafety(t, "an object 0", e, safety{false, true, true, 2})
	e = deepEngine(m.e)
	e.Pool.Seats = append(e.Pool.Seats, impl.Seat{No: 0, Dirty: true})
	checkAllHold(t, "an empty seat", e)
	e.Pool.Seats[1].P.Slots[0] = numbered(1)
	checkSafety(t, "an object 0 in a seat", e, safety{false, true, true, 2})
}

// What Redo refuses is not done: records that are not right, and such as are not above those ahead.
func TestAheadOfWhatIsNoLog(t *testing.T) {
	for why, recs := range map[string][]impl.Rec{
		"no kind":          {{Lsn: 1, Tx: 1, Kind: 7, Oid: 5, After: numbered(1)}},
		"no such slot":     {{Lsn: 1, Tx: 1, Kind: impl.RecSet, Oid: 5, Before: impl.Slot{Has: true}, After: numbered(1)}},
		"no transaction":   {{Lsn: 1, Kind: impl.RecSet, Oid: 5, After: numbered(1)}},
		"a record ahead":   {{Lsn: 1, Tx: 1, Prev: 1, Kind: impl.RecSet, Oid: 5, After: numbered(1)}},
		"an Lsn of 0":      {{Lsn: 0, Tx: 1, Kind: impl.RecSet, Oid: 5, After: numbered(1)}},
		"an Lsn above it":  {{Lsn: 9, Tx: 1, Kind: impl.RecSet, Oid: 5, After: numbered(1)}},
		"no object":        {{Lsn: 1, Tx: 1, Kind: impl.RecSet, Oid: 32, After: numbered(1)}},
		"no object, but 0": {{Lsn: 1, Tx: 1, Kind: impl.RecSet, Oid: 0, After: numbered(1)}},
		"no object, below": {{Lsn: 1, Tx: 1, Kind: impl.RecSet, Oid: -3, After: numbered(1)}},
	} {
		e := impl.Engine{Log: impl.Log{Recs: recs}, Next: 2}
		if got := checkSafe(t, why, e); !got.ahead || got.safe > 1 {
			t.Errorf("%s: %+v", why, got)
		}
		for no := range e.Disk {
			told := deepEngine(e)
			told.Disk[no] = impl.Page{Lsn: 1, Slots: [4]impl.Slot{1: numbered(1)}}
			if got := checkSafe(t, why, told); got.ahead {
				t.Errorf("%s, done: %+v", why, got)
			}
		}
	}
	back := impl.Engine{Next: 2, Log: impl.Log{Recs: []impl.Rec{
		{Lsn: 7, Tx: 1, Kind: impl.RecSet, Oid: 5, After: numbered(1)}, {Lsn: 3, Tx: 1, Kind: impl.RecSet, Oid: 5, After: numbered(2)}, {Lsn: 7, Tx: 1, Kind: impl.RecSet, Oid: 6, After: numbered(3)},
	}}}
	for lsn, want := range map[int]impl.Page{0: {}, 3: {Lsn: 3, Slots: [4]impl.Slot{1: numbered(2)}}, 7: {Lsn: 7, Slots: [4]impl.Slot{1: numbered(1)}}} {
		back.Disk[1] = want
		if got := checkSafe(t, "not in order", back); !got.ahead || got.safe != 1 {
			t.Errorf("not in order, Lsn %d: %+v", lsn, got)
		}
	}
}

// orders are all orders of a list.
func orders[T any](list []T) [][]T {
	if len(list) == 0 {
		return [][]T{nil}
	}
	var out [][]T
	for i, first := range list {
		for _, rest := range orders(slices.Concat(list[:i], list[i+1:])) {
			out = append(out, append([]T{first}, rest...))
		}
	}
	return out
}

func TestHeldForms(t *testing.T) {
	// 1 has set 5 three times and 6 once, 2 has set 9, 3 has committed 13, 4 has undone 17, 5 has none.
	m := engineOf(t, begin(), begin(), begin(), begin(), begin(), set(1, 5, numbered(1)), set(2, 9, numbered(2)), set(1, 5, numbered(3)), set(3, 13, numbered(4)), set(4, 17, numbered(5)),
		commit(3), set(1, 6, numbered(6)), abort(4), set(1, 5, impl.Slot{}))
	right := []impl.Hold{{Tx: 1, Oid: 5}, {Tx: 2, Oid: 9}, {Tx: 1, Oid: 6}}
	if !slices.Equal(m.e.Holds, right) {
		t.Fatalf("holds %v", m.e.Holds)
	}
	with := func(holds []impl.Hold) impl.Engine {
		e := deepEngine(m.e)
		e.Holds = holds
		return e
	}
	for _, holds := range orders(right) {
		checkAllHold(t, "in any order", with(holds))
	}
	more := func(h impl.Hold) []impl.Hold { return append(slices.Clone(right), h) }
	for why, holds := range map[string][]impl.Hold{
		"none":                           nil,
		"one only":                       right[:1],
		"one too few at the end":         right[:2],
		"one too few ahead":              right[1:],
		"one too few between":            {right[0], right[2]},
		"one too many":                   more(impl.Hold{Tx: 1, Oid: 7}),
		"one too many, ahead":            append([]impl.Hold{{Tx: 2, Oid: 31}}, right...),
		"one too many, of one with none": more(impl.Hold{Tx: 5, Oid: 7}),
		"what one that committed set":    more(impl.Hold{Tx: 1, Oid: 13}),
		"what one that aborted set":      more(impl.Hold{Tx: 2, Oid: 17}),
		"another transaction":            {{Tx: 2, Oid: 5}, right[1], right[2]},
		"one with none":                  {right[0], {Tx: 5, Oid: 9}, right[2]},
		"two of the other one":           {{Tx: 2, Oid: 5}, {Tx: 1, Oid: 9}, right[2]},
		"another object":                 {right[0], right[1], {Tx: 1, Oid: 7}},
		"one for another":                {right[0], right[1], {Tx: 1, Oid: 13}},
	} {
		got := checkSafe(t, why, with(holds))
		if got.held || !got.ahead || got.safe != 3 {
			t.Errorf("%s: %+v", why, got)
		}
	}
	// These are no engines, for what they hold.
	for why, holds := range map[string][]impl.Hold{
		"by one that committed":  more(impl.Hold{Tx: 3, Oid: 13}),
		"by one that aborted":    more(impl.Hold{Tx: 4, Oid: 17}),
		"by nobody":              more(impl.Hold{Tx: 9, Oid: 7}),
		"by one there is not":    {right[0], {Tx: 0, Oid: 9}, right[2]},
		"of no object":           more(impl.Hold{Tx: 1, Oid: 0}),
		"of none above them all": more(impl.Hold{Tx: 1, Oid: 32}),
		"by two":                 more(impl.Hold{Tx: 2, Oid: 5}),
	} {
		if got := checkSafe(t, why, with(holds)); got.held || got.safe != 1 {
			t.Errorf("%s: %+v", why, got)
		}
	}
	if got := checkSafe(t, "twice", with(more(right[0]))); !got.held || got.safe != 1 {
		t.Errorf("twice: %+v", got)
	}
}

// Only RecSets of those that are under way are told as held.
func TestHeldByWhichRecords(t *testing.T) {
	back := impl.Rec{Tx: 1, Kind: impl.RecBack, Oid: 7, After: numbered(1)}
	for _, x := range []struct {
		why   string
		recs  []impl.Rec
		txs   []int
		holds []impl.Hold
		want  bool
	}{
		{"no records", nil, []int{1}, nil, true},
		{"no records, but held", nil, []int{1}, []impl.Hold{{Tx: 1, Oid: 5}}, false},
		{"records of other kinds", []impl.Rec{back, rec(1, impl.RecAbort), rec(1, impl.RecEnd), rec(1, impl.RecCommit), checkRec()}, []int{1}, nil, true},
		{"undone alone, and held", []impl.Rec{back}, []int{1}, []impl.Hold{{Tx: 1, Oid: 7}}, false},
		{"nobody is under way", []impl.Rec{setRec(1, 5, numbered(1)), setRec(2, 5, numbered(2))}, nil, nil, true},
		{"one of two is under way", []impl.Rec{setRec(1, 5, numbered(1)), setRec(2, 6, numbered(2))}, []int{2}, []impl.Hold{{Tx: 2, Oid: 6}}, true},
		{"both are", []impl.Rec{setRec(1, 5, numbered(1)), setRec(2, 6, numbered(2))}, []int{1, 2}, []impl.Hold{{Tx: 2, Oid: 6}}, false},
		{"one object of two, one of whom has ended", []impl.Rec{setRec(1, 5, numbered(1)), rec(1, impl.RecCommit), rec(1, impl.RecEnd), setRec(2, 5, numbered(2))}, []int{2}, []impl.Hold{{Tx: 2, Oid: 5}}, true},
		{"told as ended, but under way", []impl.Rec{setRec(1, 5, numbered(1)), rec(1, impl.RecEnd)}, []int{1}, []impl.Hold{{Tx: 1, Oid: 5}}, true},
		{"told as ended, but under way, and not held", []impl.Rec{setRec(1, 5, numbered(1)), rec(1, impl.RecEnd)}, []int{1}, nil, false},
		{"the log's last", []impl.Rec{checkRec(), checkRec(), setRec(1, 31, numbered(1))}, []int{1}, nil, false},
		{"the log's first", []impl.Rec{setRec(1, 1, impl.Slot{}), checkRec(), checkRec()}, []int{1}, nil, false},
	} {
		e := impl.Engine{Log: logWith(x.recs...), Holds: x.holds, Next: 3}
		for _, tx := range x.txs {
			lsns := append(impl.Chain(e.Log, tx), 0)
			e.Txs = append(e.Txs, impl.Live{Tx: tx, Last: lsns[0]})
		}
		if got := checkSafe(t, x.why, e); got.held != x.want || got.safe == 1 || !x.want && got.safe != 3 {
			t.Errorf("%s: %+v", x.why, got)
		}
	}
}

func TestLastingForms(t *testing.T) {
	m := engineOf(t, begin(), begin(), set(1, 5, numbered(1)), set(1, 9, numbered(2)), flush(2), set(1, 6, numbered(6)), commit(1), set(2, 5, numbered(3)), set(2, 13, numbered(4)), set(2, 5, numbered(5)))
	checkAllHold(t, "as it is", m.e)
	lost := safety{true, true, false, 4}
	for _, x := range []struct {
		why    string
		change func(e *impl.Engine)
		want   safety
	}{
		{"not written, and lost", func(e *impl.Engine) { e.Pool.Seats = nil }, lost},
		{"the page of what is committed is lost", func(e *impl.Engine) { e.Pool.Seats = slices.Delete(e.Pool.Seats, 0, 1) }, lost},
		{"the page of what is written is lost", func(e *impl.Engine) { e.Pool.Seats = slices.Delete(e.Pool.Seats, 1, 2) }, allHold},
		{"the page of what is held alone is lost", func(e *impl.Engine) { e.Pool.Seats = slices.Delete(e.Pool.Seats, 2, 3) }, allHold},
		{"the commit is not told", func(e *impl.Engine) { e.Log.Recs[3].Kind = impl.RecAbort }, lost},
		{"a commit of who is under way", func(e *impl.Engine) {
			e.Log.Recs = append(e.Log.Recs, impl.Rec{Lsn: 9, Tx: 2, Prev: 8, Kind: impl.RecCommit})
			e.Txs[0].Last = 9
		}, lost},
		{"another Before of the first set", func(e *impl.Engine) { e.Log.Recs[5].Before = numbered(9) }, lost},
		{"another Before of a later set", func(e *impl.Engine) { e.Log.Recs[7].Before = numbered(9) }, allHold},
		{"nothing Before the first set", func(e *impl.Engine) { e.Log.Recs[5].Before = impl.Slot{} }, lost},
		{"something Before the first set", func(e *impl.Engine) { e.Log.Recs[6].Before = numbered(9) }, lost},
		{"what is held is not", func(e *impl.Engine) { e.Holds = nil }, safety{true, false, false, 3}},
		{"one that is held is not", func(e *impl.Engine) { e.Holds = e.Holds[1:] }, safety{true, false, false, 3}},
		{"one too many is held", func(e *impl.Engine) { e.Holds = append(e.Holds, impl.Hold{Tx: 2, Oid: 9}) }, safety{true, false, true, 3}},
		{"another object is there", func(e *impl.Engine) { e.Disk[7].Slots[3] = numbered(1) }, safety{false, true, false, 2}},
		{"an object is gone", func(e *impl.Engine) { e.Pool.Seats[0].P.Slots[2] = impl.Slot{} }, safety{false, true, false, 2}},
		{"an object is another", func(e *impl.Engine) { e.Pool.Seats[1].P.Slots[1], e.Pool.Seats[1].Dirty = numbered(8), true }, safety{false, true, false, 2}},
		{"what is held is another", func(e *impl.Engine) { e.Pool.Seats[0].P.Slots[1] = numbered(8) }, safety{false, true, true, 2}},
	} {
		e := deepEngine(m.e)
		x.change(&e)
		checkSafety(t, x.why, e, x.want)
	}
}

// Of one that is Down it is asked what comes of it, whatever is there by now.
func TestLastingOfOneThatIsDown(t *testing.T) {
	first := setRec(2, 5, numbered(3))
	first.Before = numbered(1)
	committed := []impl.Rec{setRec(1, 5, numbered(1)), rec(1, impl.RecCommit)}
	log := func(recs ...impl.Rec) impl.Log { return logWith(slices.Concat(committed, recs)...) }
	wrong, commits := first, rec(2, impl.RecCommit)
	wrong.Before = numbered(7)
	for _, x := range []struct {
		why  string
		l    impl.Log
		want bool
	}{
		{"committed", log(), true},
		{"one is to be undone", log(first), true},
		{"one is to be undone to what never was", log(wrong), false},
		{"one that is not to be undone", log(wrong, commits), true},
		{"one that ended, but was neither committed nor undone", log(first, rec(2, impl.RecEnd)), false},
		{"one of whose abort the beginning is told", log(first, rec(2, impl.RecAbort)), true},
		{"one that is undone otherwise", log(first, rec(2, impl.RecAbort), backRec(2, 5)), false},
		{"one that is not told of by the last check", log(first, checkRec()), false},
		{"one that is told of by the last check", log(first, checkRec(impl.Live{Tx: 2, Last: 3})), true},
		{"one that sets what is committed", log(setRec(2, 5, numbered(1)), rec(2, impl.RecEnd)), true},
	} {
		e := downWith(x.l)
		want := allHold
		if !x.want {
			want = safety{true, true, false, 4}
		}
		checkSafety(t, x.why, e, want)
		// With its page written, too, which tells of what is not committed.
		e.Disk[1] = toldPage(e.Log, 1, len(e.Log.Recs))
		checkSafety(t, x.why+", written", e, want)
		e.Pool.Hand = 2
		checkSafety(t, x.why+", the hand elsewhere", e, want)
		e.Disk[0].Slots[0] = numbered(1)
		want.ahead, want.safe = false, 2
		checkSafety(t, x.why+", and an object 0", e, want)
		e.Next = 0
		checkSafety(t, x.why+", and no engine", e, safety{false, true, false, 1})
	}
}

func TestLastingAtTheEdgeOfTheLog(t *testing.T) {
	for _, sets := range []int{1, 2, 9} {
		for room := range sets + 3 {
			want := allHold
			if room <= sets {
				want = safety{true, true, false, 4}
			}
			down := longDown(impl.MaxRecs-room, sets)
			checkSafety(t, fmt.Sprintf("%d sets, room for %d", sets, room), down, want)
			// Stopped on its way it has no more room than ahead of it.
			for limit := range 2 * sets {
				out, up := impl.Restart(down, limit)
				if up {
					t.Fatalf("%d sets, room for %d, limit %d: it is up", sets, room, limit)
				}
				checkSafety(t, fmt.Sprintf("%d sets, room for %d, stopped at %d", sets, room, limit), out, want)
			}
		}
	}
	checkAllHold(t, "all is to be undone", longDown(1999, 1999))
	checkSafety(t, "all is to be undone, but for one", longDown(2000, 2000), safety{true, true, false, 4})
	full := longDown(impl.MaxRecs, impl.MaxRecs-1)
	full.Log.Recs[impl.MaxRecs-1] = impl.Rec{Lsn: impl.MaxRecs, Tx: 2, Prev: impl.MaxRecs - 1, Kind: impl.RecCommit}
	checkAllHold(t, "all is to be done again, and nothing undone", full)
}

// A long log of one that is up is asked from its first record to its last one.
func TestSafeOfLongLogs(t *testing.T) {
	for _, count := range []int{1, 2, 1000, impl.MaxRecs} {
		for _, own := range []int{0, 1, min(count, 900)} {
			e := longEngine(count, own)
			checkAllHold(t, fmt.Sprintf("%d records, %d own", count, own), e)
			if own == 0 {
				continue
			}
			none := e
			none.Holds = nil
			want := safety{true, false, false, 3}
			checkSafety(t, fmt.Sprintf("%d records, %d own, not held", count, own), none, want)
		}
	}
	e := longEngine(impl.MaxRecs, 900)
	e.Pool.Seats[0].P.Slots[1] = numbered(898)
	checkSafety(t, "the last but one", e, safety{false, true, true, 2})
	e.Pool.Seats[0].P.Lsn = 899
	checkAllHold(t, "the last but one, as told", e)
}

// Where several do not hold, the first that the chapter names counts.
func TestSafeTellsTheFirst(t *testing.T) {
	made := engineOf(t, begin(), set(1, 5, numbered(1)), commit(1), begin(), set(2, 5, numbered(2))).e
	spoil := []func(e *impl.Engine){
		func(e *impl.Engine) { e.Next = 0 },
		func(e *impl.Engine) { e.Disk[0].Slots[0] = numbered(3) },
		func(e *impl.Engine) { e.Holds = append(e.Holds, impl.Hold{Tx: 2, Oid: 31}) },
		func(e *impl.Engine) { e.Log.Recs[3].Before = numbered(4) },
	}
	for which := range 1 << len(spoil) {
		e, first := deepEngine(made), 0
		holds := [4]bool{true, true, true, true}
		for i, change := range spoil {
			if which>>i&1 == 0 {
				continue
			}
			change(&e)
			holds[i] = false
			if first == 0 {
				first = i + 1
			}
		}
		checkSafety(t, fmt.Sprintf("spoilt %04b", which), e, safety{holds[1], holds[2], holds[3], first})
	}
}

func TestSafeOfWhatIsNoEngine(t *testing.T) {
	answers := map[safety]int{}
	for _, w := range wrongEngines(t) {
		got := checkSafe(t, w.why, w.e)
		if got.safe != 1 || w.e.Down && got.lasting {
			t.Errorf("%s: %+v", w.why, got)
		}
		answers[got]++
	}
	// The other questions are asked of them, too, and answered by what stands there.
	for _, s := range []safety{{true, true, true, 1}, {false, true, true, 1}, {true, false, true, 1}, {true, true, false, 1}, {true, false, false, 1}} {
		if answers[s] < 3 {
			t.Errorf("%+v: %d times only: %v", s, answers[s], answers)
		}
	}
	checkSafety(t, "the zero one", impl.Engine{}, safety{true, true, true, 1})
	checkSafety(t, "the zero one, and down", impl.Engine{Down: true}, safety{true, true, false, 1})
	far := impl.Engine{Next: math.MinInt64, Pool: impl.Pool{Seats: []impl.Seat{{No: math.MaxInt64}, {No: math.MinInt64}, {No: -1}}, Hand: -1}, Txs: []impl.Live{{Tx: -1}}}
	far.Log = impl.Log{Recs: []impl.Rec{{Lsn: math.MinInt64, Oid: math.MinInt64, Kind: 1, Tx: -1}, {Lsn: math.MaxInt64, Oid: math.MaxInt64, Kind: 1, Tx: -1}}, Sure: -9}
	far.Disk[7].Lsn = math.MaxInt64
	checkSafety(t, "numbers far off", far, safety{false, false, true, 1})
	far.Disk[7].Lsn = math.MinInt64
	far.Holds = []impl.Hold{{Tx: -1, Oid: math.MaxInt64}, {Tx: -1, Oid: math.MinInt64}}
	checkSafety(t, "numbers far off, and held", far, safety{false, true, true, 1})
}

// mutateTold turns one thing that the questions ask of into something near it.
func mutateTold(r *turns, e *impl.Engine) {
	pages := pagesOf(e)
	page := pages[r.below(len(pages))]
	aRec, hold := &impl.Rec{}, &impl.Hold{}
	if len(e.Log.Recs) > 0 {
		aRec = &e.Log.Recs[r.below(len(e.Log.Recs))]
	}
	if len(e.Holds) > 0 {
		hold = &e.Holds[r.below(len(e.Holds))]
	}
	switch r.below(12) {
	case 0:
		page.Slots[r.below(4)] = sampleSlots()[r.below(len(sampleSlots()))]
	case 1:
		page.Lsn = r.below(len(e.Log.Recs) + 2)
	case 2:
		*page = toldPage(e.Log, r.below(8), r.below(min(len(e.Log.Recs), 40)+1))
	case 3:
		hold.Tx = r.below(8)
	case 4:
		hold.Oid = r.below(33)
	case 5:
		aRec.Tx = r.below(8)
	case 6:
		aRec.Oid = r.below(33)
	case 7:
		aRec.Before = numbered(r.below(5))
	case 8:
		aRec.After = numbered(r.below(5))
	case 9:
		aRec.Kind = r.below(8)
	case 10:
		e.Disk[0].Slots[0] = numbered(1)
	case 11:
		if len(e.Txs) > 0 {
			e.Holds = append(e.Holds, impl.Hold{Tx: e.Txs[r.below(len(e.Txs))].Tx, Oid: 14 + r.below(8)})
		}
	}
}

// What is asked of any engine, whether it came of events or not, is answered as the chapter says.
func TestSafeOfManyEngines(t *testing.T) {
	r := &turns{15}
	found := map[safety]int{}
	engines := append(worldEngines(t), tellingEngine(t))
	for n := range 9000 {
		e := deepEngine(engines[r.below(len(engines))])
		if n%9 == 0 {
			e = anyDown(r)
		}
		for range r.below(3) {
			mutateTold(r, &e)
		}
		for range r.below(2) {
			mutate(r, &e)
		}
		found[checkSafe(t, fmt.Sprint("engine ", n), e)]++
	}
	for _, s := range []safety{
		allHold, {false, true, true, 2}, {false, true, false, 2}, {false, false, true, 2}, {false, false, false, 2}, {true, false, true, 3}, {true, false, false, 3}, {true, true, false, 4},
		{true, true, true, 1}, {false, true, true, 1}, {true, false, false, 1}, {false, false, false, 1}, {true, true, false, 1}, {false, true, false, 1},
	} {
		if found[s] < 8 {
			t.Errorf("%+v: %d times only: %v", s, found[s], found)
		}
	}
}

// seen is what the promise was asked of.
type seen map[string]int

func (s seen) note(e impl.Engine) {
	for _, seat := range e.Pool.Seats {
		if seat.P.Lsn > 0 {
			s[map[bool]string{true: "changed", false: "written"}[seat.Dirty]]++
		}
	}
	for no, p := range e.Disk {
		if plainSeated(e.Pool, no) < 0 && p.Lsn > 0 {
			s["on the disk alone"]++
		}
	}
	if len(e.Holds) > 0 {
		s["held"]++
	}
	if len(e.Txs) > 1 {
		s["several under way"]++
	}
}

func (s seen) checkLeast(t *testing.T, least map[string]int) {
	t.Helper()
	for what, n := range least {
		if s[what] < n {
			t.Errorf("%s: %d times only: %v", what, s[what], s)
		}
	}
}

// crashed tells how much of what was not sure an event kept.
func crashed(was impl.Engine, ev impl.Event) string {
	unsure := len(was.Log.Recs) - was.Log.Sure
	switch {
	case unsure == 0:
		return "nothing was to be kept"
	case ev.N == 0:
		return "kept none"
	case ev.N < unsure:
		return "kept some"
	}
	return "kept all"
}

// The promise, of EngineNew, by many events as chance has them.
func TestSafeByWhateverEvents(t *testing.T) {
	s, found := seen{}, map[string]int{}
	for walk := range 16 {
		w := &world{t, &turns{9000 + 37*walk}, impl.EngineNew(), newTruth(), found}
		stops := 0
		for range 300 {
			was := w.e
			ev := w.step()
			checkAllHold(t, fmt.Sprintf("%+v", ev), w.e)
			s.note(w.e)
			switch {
			case ev.Kind == impl.EvCrash && ev.N >= 0:
				s[crashed(was, ev)]++
			case ev.Kind == impl.EvRestart && w.e.Down:
				stops++
			case ev.Kind == impl.EvRestart && was.Down:
				s[fmt.Sprint("stopped ", min(stops, 2), " times")]++
				stops = 0
			}
		}
	}
	s.checkLeast(t, map[string]int{
		"changed": 1000, "written": 200, "on the disk alone": 1000, "held": 500, "several under way": 500,
		"nothing was to be kept": 20, "kept none": 20, "kept some": 20, "kept all": 10, "stopped 0 times": 20, "stopped 1 times": 20, "stopped 2 times": 20,
	})
}

// The promise, of all orders of a few events, as one play each; behind each, of every crash of it.
func TestSafeOfAllOrdersOfEvents(t *testing.T) {
	s := seen{}
	start := []impl.Event{evBegin(), evBegin(), evBegin(), evSet(0, 1, numbered(1)), evSet(0, 5, numbered(2)), evSet(2, 9, numbered(3))}
	events := []impl.Event{evSet(1, 13, numbered(4)), evSet(1, 5, numbered(5)), evCommit(0), evFlush(1), evCheck(), evAbort(0)}
	for _, order := range orders(events) {
		e := impl.Play(impl.EngineNew(), slices.Concat(start, order))
		checkAllHold(t, fmt.Sprintf("%+v", order), e)
		s.note(e)
		for keep := range len(e.Log.Recs) - e.Log.Sure + 1 {
			down := impl.Crash(e, keep)
			if got := safetyOf(down); got != allHold {
				t.Fatalf("%+v, and a crash that keeps %d: %+v", order, keep, got)
			}
		}
	}
	s.checkLeast(t, map[string]int{"changed": 500, "written": 50, "on the disk alone": 100, "held": 500})
}

// The promise, of every way of a few events, every crash, each restart stopped wherever it may be, and every crash behind that, which is stopped again.
func TestSafeOfAllShortWays(t *testing.T) {
	events := []impl.Event{evSet(0, 5, numbered(1)), evSet(1, 6, impl.Slot{}), evSet(1, 21, numbered(4)), evCommit(0), evAbort(0), evCheck(), evFlush(1), evCollect(1)}
	var walk func(e impl.Engine, left int)
	walk = func(e impl.Engine, left int) {
		checkAllHold(t, "up", e)
		for keep := range len(e.Log.Recs) - e.Log.Sure + 1 {
			checkSafeCuts(t, impl.Crash(e, keep), 2)
		}
		for _, ev := range events {
			if a := do(e, ev); left > 0 && a.code == impl.EngGood {
				walk(a.e, left-1)
			}
		}
	}
	walk(committedWith(t, viewFrom("1:6 6: 9:1")).then(begin(), begin(), set(3, 14, numbered(9))).e, 2)
}

// checkSafeCuts asks the promise of one that is Down, of it stopped at every limit, and of every crash of that, so many times over.
func checkSafeCuts(t *testing.T, down impl.Engine, times int) {
	t.Helper()
	for limit := 0; ; limit++ {
		a := do(down, evRestart(limit))
		if got := safetyOf(a.e); got != allHold {
			t.Fatalf("limit %d, code %d: %+v: %+v", limit, a.code, got, brief(a.e))
		}
		if a.code == impl.EngGood {
			return
		}
		for keep := range len(a.e.Log.Recs) - a.e.Log.Sure + 1 {
			if again := impl.Crash(a.e, keep); times > 1 && limit > 0 {
				checkSafeCuts(t, again, times-1)
			}
		}
	}
}

// The promise, of long logs, by plays of as many events as there may be.
func TestSafeOfLongPlays(t *testing.T) {
	s := seen{}
	for walk := range 4 {
		w := &world{t, &turns{77 + 5*walk}, impl.EngineNew(), newTruth(), map[string]int{}}
		for range 8 {
			var list []impl.Event
			for n := range impl.MaxEvents {
				ev := w.next()
				// A crash is seldom, so that logs grow long; what is down comes up again.
				if ev.Kind == impl.EvCrash && n < 190 {
					ev = evCheck()
				}
				list = append(list, ev)
				w.e = do(w.e, ev).e
			}
			checkAllHold(t, fmt.Sprintf("%+v", list), w.e)
			s.note(w.e)
			s[fmt.Sprint("logs of ", len(w.e.Log.Recs)/300*300)]++
		}
	}
	s.checkLeast(t, map[string]int{"changed": 10, "on the disk alone": 10, "logs of 600": 1})
}

func TestSafeArgumentsAreLeft(t *testing.T) {
	engines, kept := worldRooms()
	answers := map[safety]int{}
	for _, e := range engines {
		for range 2 {
			answers[safetyOf(e)]++
			if !kept() {
				t.Fatal("an argument was written into")
			}
		}
	}
	if len(answers) < 3 {
		t.Errorf("too few: %v", answers)
	}
}

func TestSafeCallsKeepNothing(t *testing.T) {
	var engines []impl.Engine
	for _, w := range wrongEngines(t) {
		engines = append(engines, w.e)
	}
	engines = append(engines, worldEngines(t)...)
	var first []safety
	for _, e := range engines {
		first = append(first, safetyOf(e))
	}
	for i, e := range slices.Backward(engines) {
		if got := safetyOf(e); got != first[i] {
			t.Errorf("engine %d: what was called ahead is seen: %+v, was %+v", i, got, first[i])
		}
	}
	// Each question is asked by itself, whatever was asked ahead.
	for i, e := range engines {
		if got := (safety{safe: impl.Safe(e), lasting: impl.Lasting(e), held: impl.Held(e), ahead: impl.Ahead(e)}); got != first[i] {
			t.Errorf("engine %d: %+v, was %+v", i, got, first[i])
		}
	}
}
