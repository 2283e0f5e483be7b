package tests

import (
	"math"
	"slices"
	"testing"

	"loop.example/g00181/impl"
)

// allSteps is a limit that no restart of a test comes to.
const allSteps = 100000

// What follows, to plainRestart, is the chapter once more, by other means: what the calls are held against.

// plainLosers asks of each transaction that is told since the last check what was told of it last.
func plainLosers(l impl.Log) []impl.Live {
	recs, checked := l.Recs, []impl.Live(nil)
	for at := len(recs) - 1; at >= 0; at-- {
		if recs[at].Kind == 6 {
			recs, checked = recs[at+1:], recs[at].Txs
			break
		}
	}
	found := map[int]*impl.Live{}
	for _, live := range checked {
		found[live.Tx] = &impl.Live{Tx: live.Tx, Last: live.Last, Aborts: live.Aborts}
	}
	var txs []int
	for tx := range found {
		txs = append(txs, tx)
	}
	for _, r := range recs {
		txs = append(txs, r.Tx)
	}
	slices.Sort(txs)
	var out []impl.Live
	for _, tx := range slices.Compact(txs) {
		if live := plainLoser(recs, tx, found[tx]); live != nil {
			out = append(out, *live)
		}
	}
	return out
}

func plainLoser(recs []impl.Rec, tx int, live *impl.Live) *impl.Live {
	for _, r := range recs {
		ends, aborts := r.Kind == 2 || r.Kind == 5, r.Kind == 3 || r.Kind == 4
		switch {
		case r.Tx != tx:
		case ends:
			live = nil
		default:
			live = &impl.Live{Tx: tx, Last: r.Lsn, Aborts: aborts || live != nil && live.Aborts}
		}
	}
	return live
}

// plainCommitted looks for each object from the log's end on.
func plainCommitted(l impl.Log) []impl.Slot {
	out := make([]impl.Slot, 32)
	for oid := 1; oid <= 31; oid++ {
		for _, r := range slices.Backward(l.Recs) {
			commits := func(other impl.Rec) bool { return other.Kind == 2 && other.Tx == r.Tx }
			if r.Kind == 1 && r.Oid == oid && slices.ContainsFunc(l.Recs, commits) {
				out[oid] = r.After
				break
			}
		}
	}
	return out
}

func plainCrash(e impl.Engine, keep int) impl.Engine {
	if !plainEngineOk(e) || keep < 0 {
		return e
	}
	left := len(e.Log.Recs)
	if keep < left-e.Log.Sure {
		left = e.Log.Sure + keep
	}
	return impl.Engine{Disk: e.Disk, Log: impl.Log{Recs: e.Log.Recs[:left], Sure: left}, Next: e.Next, Down: true}
}

// plainRising is an engine on its way up, that may do so many steps more.
type plainRising struct {
	e    impl.Engine
	left int
}

// may counts a step, if there is one left and the log has room for its records.
func (p *plainRising) may(recs int) bool {
	if p.left == 0 || len(p.e.Log.Recs)+recs > 4000 {
		return false
	}
	p.left--
	return true
}

func (p *plainRising) add(r impl.Rec) int {
	r.Lsn = len(p.e.Log.Recs) + 1
	p.e.Log.Recs = append(p.e.Log.Recs, r)
	return r.Lsn
}

func (p *plainRising) redo() bool {
	for _, r := range p.e.Log.Recs {
		if r.Kind != 1 && r.Kind != 4 {
			continue
		}
		p.e = plainFetch(p.e, r.Oid/4)
		if p.e.Pool.Seats[plainSeated(p.e.Pool, r.Oid/4)].P.Lsn >= r.Lsn {
			continue
		}
		if !p.may(0) {
			return false
		}
		p.e = plainChange(p.e, r.Oid, r.After, r.Lsn)
	}
	return true
}

func (p *plainRising) undo(losers []impl.Live) bool {
	next := make([]int, len(losers))
	for i, live := range losers {
		next[i] = live.Last
	}
	for len(next) > 0 && slices.Max(next) > 0 {
		at := slices.Index(next, slices.Max(next))
		r := p.e.Log.Recs[next[at]-1]
		next[at] = r.Prev
		switch r.Kind {
		case 4:
			next[at] = r.Next
		case 1:
			if !p.may(1) {
				return false
			}
			losers[at].Last = p.add(impl.Rec{Tx: r.Tx, Prev: losers[at].Last, Kind: 4, Oid: r.Oid, After: r.Before, Next: r.Prev})
			p.e = plainChange(p.e, r.Oid, r.Before, losers[at].Last)
		}
	}
	return true
}

func (p *plainRising) end(losers []impl.Live) bool {
	for _, live := range losers {
		if !p.may(1) {
			return false
		}
		p.add(impl.Rec{Tx: live.Tx, Prev: live.Last, Kind: 5})
	}
	return true
}

func plainRestart(e impl.Engine, limit int) (impl.Engine, bool) {
	if !plainEngineOk(e) || !e.Down || limit < 0 {
		return e, false
	}
	p := &plainRising{e, limit}
	p.e.Log.Recs = slices.Clone(e.Log.Recs)
	losers := plainLosers(e.Log)
	if !p.redo() || !p.undo(losers) || !p.end(losers) {
		p.e.Pool = impl.Pool{}
		return p.e, false
	}
	p.e.Log.Sure, p.e.Down, p.e.Next = len(p.e.Log.Recs), false, 1
	for _, r := range p.e.Log.Recs {
		p.e.Next = max(p.e.Next, r.Tx+1)
	}
	return p.e, true
}

// checkCrash holds a crash against the plain doing of it, and asks that its argument is as it was.
func checkCrash(t *testing.T, e impl.Engine, keep int) impl.Engine {
	t.Helper()
	was := deepEngine(e)
	want := plainCrash(was, keep)
	got := impl.Crash(e, keep)
	if !sameEngines(got, want) {
		t.Fatalf("keep %d: another engine:\n%+v\nwant:\n%+v", keep, brief(got), brief(want))
	}
	if !sameEngines(e, was) {
		t.Fatalf("keep %d: its argument changed", keep)
	}
	return got
}

// checkRestart does the same of a restart.
func checkRestart(t *testing.T, e impl.Engine, limit int) (impl.Engine, bool) {
	t.Helper()
	was := deepEngine(e)
	want, wantUp := plainRestart(was, limit)
	got, up := impl.Restart(e, limit)
	if up != wantUp || !sameEngines(got, want) {
		t.Fatalf("limit %d: %v, and the engine\n%+v\nwant: %v,\n%+v", limit, up, brief(got), wantUp, brief(want))
	}
	if !sameEngines(e, was) {
		t.Fatalf("limit %d: its argument changed", limit)
	}
	return got, up
}

// checkUp is a restart that is not stopped.
func checkUp(t *testing.T, e impl.Engine, limit int) impl.Engine {
	t.Helper()
	out, up := checkRestart(t, e, limit)
	if !up || out.Down || !impl.EngineOk(out) {
		t.Fatalf("limit %d: %v, %+v", limit, up, brief(out))
	}
	return out
}

// checkStopped is a restart that is.
func checkStopped(t *testing.T, e impl.Engine, limit int) impl.Engine {
	t.Helper()
	out, up := checkRestart(t, e, limit)
	if up || !out.Down || len(out.Pool.Seats)+out.Pool.Hand+len(out.Txs)+len(out.Holds) != 0 {
		t.Fatalf("limit %d: %v, %+v", limit, up, brief(out))
	}
	return out
}

// checkGets asks that each object is told as in this view.
func checkGets(t *testing.T, e impl.Engine, view []impl.Slot) {
	t.Helper()
	for oid := 1; oid <= impl.MaxOid; oid++ {
		if _, got, code := impl.Get(e, oid); code != impl.EngGood || !sameSlot(got, view[oid]) {
			t.Fatalf("object %d is told as %v, code %d, committed was %v", oid, got, code, view[oid])
		}
	}
}

// checkRisen asks all that the promise says of an engine that is up again, and that its pages are what its log tells.
func checkRisen(t *testing.T, e impl.Engine, view []impl.Slot) {
	t.Helper()
	for oid := 1; oid <= impl.MaxOid; oid++ {
		if got := plainLook(e, oid); !sameSlot(got, view[oid]) {
			t.Fatalf("object %d is %v, committed was %v", oid, got, view[oid])
		}
	}
	checkLogAhead(t, e)
	if len(e.Txs)+len(e.Holds) != 0 || e.Log.Sure != len(e.Log.Recs) || len(impl.Losers(e.Log)) != 0 {
		t.Fatalf("somebody is under way behind a restart: %+v", brief(e))
	}
}

func sameViews(a []impl.Slot, b []impl.Slot) bool { return slices.EqualFunc(a, b, sameSlot) }

// rec is a record of this kind; logWith gives it its Lsn.
func rec(tx int, kind int) impl.Rec { return impl.Rec{Tx: tx, Kind: kind} }

func setRec(tx int, oid int, s impl.Slot) impl.Rec {
	return impl.Rec{Tx: tx, Kind: impl.RecSet, Oid: oid, After: s}
}

func backRec(tx int, oid int) impl.Rec { return impl.Rec{Tx: tx, Kind: impl.RecBack, Oid: oid} }

func checkRec(lives ...impl.Live) impl.Rec { return impl.Rec{Kind: impl.RecCheck, Txs: lives} }

// logWith numbers the records, and makes each hang at its transaction's record ahead.
func logWith(recs ...impl.Rec) impl.Log {
	last := map[int]int{}
	for i := range recs {
		recs[i].Lsn = i + 1
		if recs[i].Kind != impl.RecCheck {
			recs[i].Prev = last[recs[i].Tx]
			last[recs[i].Tx] = i + 1
		}
	}
	return impl.Log{Recs: recs, Sure: len(recs)}
}

func downWith(l impl.Log) impl.Engine {
	next := 1
	for _, r := range l.Recs {
		next = max(next, r.Tx+1)
	}
	return impl.Engine{Log: l, Next: next, Down: true}
}

var keeps = []int{0, 1, 2, 3, 4, 5, 8, 100, impl.MaxRecs, impl.MaxRecs + 1, math.MaxInt64}

var belowNought = []int{-1, -2, -100, math.MinInt64}

func TestCrash(t *testing.T) {
	e := busyEngine(t)
	unsure := len(e.Log.Recs) - e.Log.Sure
	if unsure < 2 {
		t.Fatalf("too little is not sure: %d", unsure)
	}
	for _, keep := range keeps {
		down := checkCrash(t, e, keep)
		left := e.Log.Sure + min(keep, unsure)
		if len(down.Log.Recs) != left || down.Log.Sure != left || !down.Down || down.Next != e.Next {
			t.Errorf("keep %d: %d records, sure %d", keep, len(down.Log.Recs), down.Log.Sure)
		}
		if len(down.Pool.Seats)+down.Pool.Hand+len(down.Txs)+len(down.Holds) != 0 || !impl.EngineOk(down) {
			t.Errorf("keep %d: %+v", keep, down)
		}
		for no := range e.Disk {
			if !samePage(down.Disk[no], e.Disk[no]) {
				t.Errorf("keep %d: page %d is %v, was %v", keep, no, down.Disk[no], e.Disk[no])
			}
		}
	}
	if e.Pool.Hand == 0 || len(e.Pool.Seats) == 0 || len(e.Txs) == 0 || len(e.Holds) == 0 {
		t.Errorf("the engine had nothing to lose: %+v", e)
	}
}

func TestCrashOfNothing(t *testing.T) {
	for _, keep := range keeps {
		if down := checkCrash(t, impl.EngineNew(), keep); !sameEngines(down, impl.Engine{Next: 1, Down: true}) {
			t.Errorf("keep %d: %+v", keep, down)
		}
	}
}

// One that is Down falls anew: of what a restart told ahead of its end all may be lost that is not sure.
func TestCrashOfOneThatIsDown(t *testing.T) {
	e := engineOf(t, begin(), set(1, 5, numbered(1)), set(1, 6, numbered(2)), set(1, 7, numbered(3)), check()).e
	down := checkCrash(t, e, 0)
	if again := checkCrash(t, down, 5); !sameEngines(again, down) {
		t.Errorf("what is sure is kept: %+v", again)
	}
	stopped := checkStopped(t, down, 5)
	if len(stopped.Log.Recs) != 6 || stopped.Log.Sure != 4 {
		t.Fatalf("two are undone, and not yet sure: %+v", stopped.Log)
	}
	for _, keep := range keeps {
		fallen := checkCrash(t, stopped, keep)
		if want := 4 + min(keep, 2); len(fallen.Log.Recs) != want || fallen.Log.Sure != want || !fallen.Down {
			t.Errorf("keep %d: %+v", keep, fallen.Log)
		}
	}
	handed := stopped
	handed.Pool.Hand = 2
	if fallen := checkCrash(t, handed, 0); fallen.Pool.Hand != 0 {
		t.Errorf("the hand is at %d", fallen.Pool.Hand)
	}
}

func TestCrashRefuses(t *testing.T) {
	for _, w := range wrongEngines(t) {
		for _, keep := range []int{0, 1, math.MaxInt64, -1} {
			if got := impl.Crash(w.e, keep); !sameEngines(got, w.e) {
				t.Fatalf("%s, keep %d: %+v", w.why, keep, brief(got))
			}
		}
	}
	for _, e := range goodEngines(t) {
		for _, keep := range belowNought {
			if got := checkCrash(t, e, keep); !sameEngines(got, e) {
				t.Fatalf("keep %d: %+v", keep, brief(got))
			}
		}
		for _, keep := range keeps {
			if got := checkCrash(t, e, keep); !got.Down || !impl.EngineOk(got) {
				t.Fatalf("keep %d: %+v", keep, brief(got))
			}
		}
	}
}

func TestLosers(t *testing.T) {
	set1, set2, set3 := setRec(1, 5, numbered(1)), setRec(2, 9, numbered(2)), setRec(3, 13, numbered(3))
	for name, x := range map[string]struct {
		recs []impl.Rec
		want []impl.Live
	}{
		"no record":                           {nil, nil},
		"no check":                            {[]impl.Rec{set2, set1, set2}, []impl.Live{{Tx: 1, Last: 2}, {Tx: 2, Last: 3}}},
		"a check alone":                       {[]impl.Rec{checkRec()}, nil},
		"a check of nobody at the end":        {[]impl.Rec{set1, checkRec()}, nil},
		"a check at the end":                  {[]impl.Rec{set1, set2, checkRec(impl.Live{Tx: 1, Last: 1}, impl.Live{Tx: 2, Last: 2})}, []impl.Live{{Tx: 1, Last: 1}, {Tx: 2, Last: 2}}},
		"more behind a check":                 {[]impl.Rec{set1, set2, checkRec(impl.Live{Tx: 1, Last: 1}, impl.Live{Tx: 2, Last: 2}), set2, set3}, []impl.Live{{Tx: 1, Last: 1}, {Tx: 2, Last: 4}, {Tx: 3, Last: 5}}},
		"the last of several checks":          {[]impl.Rec{set1, checkRec(impl.Live{Tx: 1, Last: 1}), set2, checkRec(impl.Live{Tx: 2, Last: 3}), set3, checkRec(impl.Live{Tx: 3, Last: 5}), set2}, []impl.Live{{Tx: 2, Last: 7}, {Tx: 3, Last: 5}}},
		"one that is told ahead of it alone":  {[]impl.Rec{set1, set2, checkRec(impl.Live{Tx: 2, Last: 2})}, []impl.Live{{Tx: 2, Last: 2}}},
		"one that the check alone tells":      {[]impl.Rec{set1, checkRec(impl.Live{Tx: 900, Last: 1})}, []impl.Live{{Tx: 900, Last: 1}}},
		"one that is committed":               {[]impl.Rec{set1, set2, rec(1, impl.RecCommit)}, []impl.Live{{Tx: 2, Last: 2}}},
		"one that is committed and ended":     {[]impl.Rec{set1, set2, rec(1, impl.RecCommit), rec(1, impl.RecEnd)}, []impl.Live{{Tx: 2, Last: 2}}},
		"one that ended":                      {[]impl.Rec{set1, rec(1, impl.RecAbort), rec(1, impl.RecEnd)}, nil},
		"one that ended behind a check":       {[]impl.Rec{set1, set2, checkRec(impl.Live{Tx: 1, Last: 1}, impl.Live{Tx: 2, Last: 2}), rec(1, impl.RecEnd)}, []impl.Live{{Tx: 2, Last: 2}}},
		"one that is committed behind it":     {[]impl.Rec{set1, set2, checkRec(impl.Live{Tx: 1, Last: 1}, impl.Live{Tx: 2, Last: 2}), rec(2, impl.RecCommit)}, []impl.Live{{Tx: 1, Last: 1}}},
		"one that began to abort":             {[]impl.Rec{set1, rec(1, impl.RecAbort)}, []impl.Live{{Tx: 1, Last: 2, Aborts: true}}},
		"one that has an abort alone":         {[]impl.Rec{rec(4, impl.RecAbort)}, []impl.Live{{Tx: 4, Last: 1, Aborts: true}}},
		"one that was undone in part":         {[]impl.Rec{set1, set1, rec(1, impl.RecAbort), backRec(1, 5)}, []impl.Live{{Tx: 1, Last: 4, Aborts: true}}},
		"one that a restart undid in part":    {[]impl.Rec{set1, set1, backRec(1, 5)}, []impl.Live{{Tx: 1, Last: 3, Aborts: true}}},
		"one that a check tells to abort":     {[]impl.Rec{set1, checkRec(impl.Live{Tx: 1, Last: 1, Aborts: true})}, []impl.Live{{Tx: 1, Last: 1, Aborts: true}}},
		"who aborts goes on to":               {[]impl.Rec{set1, rec(1, impl.RecAbort), set1}, []impl.Live{{Tx: 1, Last: 3, Aborts: true}}},
		"who aborts behind a check goes on":   {[]impl.Rec{set1, checkRec(impl.Live{Tx: 1, Last: 1, Aborts: true}), set1}, []impl.Live{{Tx: 1, Last: 3, Aborts: true}}},
		"an abort ahead of a check":           {[]impl.Rec{set1, rec(1, impl.RecAbort), checkRec(impl.Live{Tx: 1, Last: 2})}, []impl.Live{{Tx: 1, Last: 2}}},
		"one behind its end":                  {[]impl.Rec{set1, rec(1, impl.RecAbort), rec(1, impl.RecEnd), set1}, []impl.Live{{Tx: 1, Last: 4}}},
		"one behind its commit":               {[]impl.Rec{set1, rec(1, impl.RecAbort), rec(1, impl.RecCommit), set1}, []impl.Live{{Tx: 1, Last: 4}}},
		"a commit ahead of a check is passed": {[]impl.Rec{set1, rec(1, impl.RecCommit), checkRec(impl.Live{Tx: 1, Last: 2})}, []impl.Live{{Tx: 1, Last: 2}}},
	} {
		l := logWith(x.recs...)
		if !impl.LogOk(l) {
			t.Fatalf("%s: no log: %+v", name, l)
		}
		if got := impl.Losers(l); !slices.Equal(got, x.want) || !slices.Equal(plainLosers(l), x.want) {
			t.Errorf("%s: %v, want %v", name, got, x.want)
		}
	}
}

func TestLosersOfManyTransactions(t *testing.T) {
	var recs []impl.Rec
	var want []impl.Live
	for i := range impl.MaxTx {
		recs = append(recs, setRec(impl.MaxTx-i, 5, numbered(i)))
		want = append(want, impl.Live{Tx: i + 1, Last: impl.MaxTx - i})
	}
	if got := impl.Losers(logWith(recs...)); !slices.Equal(got, want) {
		t.Errorf("%v", got)
	}
}

// Of what is no log that is told which stands there.
func TestLosersOfWhatIsNoLog(t *testing.T) {
	for i, x := range []struct {
		l    impl.Log
		want []impl.Live
	}{
		{impl.Log{Sure: -1}, nil},
		{impl.Log{Sure: 9, Recs: []impl.Rec{{Lsn: 7, Tx: 2, Kind: impl.RecSet}}}, []impl.Live{{Tx: 2, Last: 7}}},
		{impl.Log{Recs: []impl.Rec{{Lsn: math.MaxInt64, Tx: math.MaxInt64, Kind: impl.RecSet}, {Lsn: math.MinInt64, Tx: math.MinInt64, Kind: impl.RecBack}, {Tx: 0, Kind: impl.RecAbort}, {Lsn: -5, Tx: -1, Kind: impl.RecSet}}},
			[]impl.Live{{Tx: math.MinInt64, Last: math.MinInt64, Aborts: true}, {Tx: -1, Last: -5}, {Tx: 0, Last: 0, Aborts: true}, {Tx: math.MaxInt64, Last: math.MaxInt64}}},
		{impl.Log{Recs: []impl.Rec{{Lsn: 4, Tx: 1, Kind: impl.RecSet}, {Lsn: 4, Tx: 1001, Kind: impl.RecSet}, {Lsn: 4, Tx: 1001, Kind: impl.RecEnd}, {Lsn: 2, Tx: 1, Kind: impl.RecSet}}}, []impl.Live{{Tx: 1, Last: 2}}},
		// A RecCheck is no transaction's record, whatever stands in its Tx; what it tells need not be in order.
		{impl.Log{Recs: []impl.Rec{{Lsn: 1, Tx: 7, Kind: impl.RecCheck, Txs: []impl.Live{{Tx: 9, Last: 50, Aborts: true}, {Tx: -3}, {Tx: 4, Last: -1}}}}}, []impl.Live{{Tx: -3}, {Tx: 4, Last: -1}, {Tx: 9, Last: 50, Aborts: true}}},
	} {
		if got := impl.Losers(x.l); impl.LogOk(x.l) || !slices.Equal(got, x.want) {
			t.Errorf("%d: %v, want %v", i, got, x.want)
		}
	}
	for _, l := range wrongLogs() {
		if got := impl.Losers(l); !slices.Equal(got, plainLosers(l)) {
			t.Fatalf("%v, want %v: %+v", got, plainLosers(l), l)
		}
	}
	for _, l := range sampleLogs() {
		if got := impl.Losers(l); !slices.Equal(got, plainLosers(l)) {
			t.Fatalf("%d records: %v, want %v", len(l.Recs), got, plainLosers(l))
		}
	}
}

func TestCommitted(t *testing.T) {
	one, two := numbered(1), numbered(2)
	for name, x := range map[string]struct {
		recs []impl.Rec
		want map[int]impl.Slot
	}{
		"no record":                       {nil, nil},
		"nobody commits":                  {[]impl.Rec{setRec(1, 5, one), rec(1, impl.RecEnd)}, nil},
		"one commits, another does not":   {[]impl.Rec{setRec(1, 5, one), setRec(2, 6, two), rec(1, impl.RecCommit)}, map[int]impl.Slot{5: one}},
		"all objects":                     {[]impl.Rec{setRec(1, 1, one), setRec(1, 31, two), rec(1, impl.RecCommit)}, map[int]impl.Slot{1: one, 31: two}},
		"the last one counts":             {[]impl.Rec{setRec(1, 5, one), setRec(1, 5, two), rec(1, impl.RecCommit)}, map[int]impl.Slot{5: two}},
		"the last one of those":           {[]impl.Rec{setRec(1, 5, one), rec(1, impl.RecCommit), setRec(2, 5, two)}, map[int]impl.Slot{5: one}},
		"the last one, not who commits":   {[]impl.Rec{setRec(2, 5, one), setRec(1, 5, two), rec(1, impl.RecCommit), rec(2, impl.RecCommit)}, map[int]impl.Slot{5: two}},
		"nothing again":                   {[]impl.Rec{setRec(1, 5, one), rec(1, impl.RecCommit), setRec(2, 5, impl.Slot{}), rec(2, impl.RecCommit)}, nil},
		"what is set behind the commit":   {[]impl.Rec{rec(1, impl.RecCommit), setRec(1, 5, one)}, map[int]impl.Slot{5: one}},
		"what is undone is passed over":   {[]impl.Rec{setRec(1, 5, one), {Tx: 1, Kind: impl.RecBack, Oid: 5, After: two}, rec(1, impl.RecCommit)}, map[int]impl.Slot{5: one}},
		"checks have no part in it":       {[]impl.Rec{setRec(1, 5, one), rec(1, impl.RecCommit), checkRec(), setRec(2, 6, two), checkRec(impl.Live{Tx: 2, Last: 4})}, map[int]impl.Slot{5: one}},
		"aborts and ends have no part":    {[]impl.Rec{setRec(1, 5, one), rec(1, impl.RecAbort), rec(1, impl.RecEnd), rec(1, impl.RecCommit)}, map[int]impl.Slot{5: one}},
		"what is not sure is told, too":   {[]impl.Rec{setRec(1000, 17, one), rec(1000, impl.RecCommit)}, map[int]impl.Slot{17: one}},
		"who commits has nothing set yet": {[]impl.Rec{rec(3, impl.RecCommit), rec(3, impl.RecEnd)}, nil},
	} {
		for _, sure := range []int{0, len(x.recs)} {
			l := logWith(x.recs...)
			l.Sure = sure
			want := make([]impl.Slot, impl.MaxOid+1)
			for oid, s := range x.want {
				want[oid] = s
			}
			if got := impl.Committed(l); !impl.LogOk(l) || !sameViews(got, want) || !sameViews(plainCommitted(l), want) {
				t.Errorf("%s: %v, want %v", name, got, want)
			}
		}
	}
}

// Of what is no log that is told which stands there; of an Oid that no object has nothing can be.
func TestCommittedOfWhatIsNoLog(t *testing.T) {
	for _, oid := range wrongOids {
		l := impl.Log{Sure: -1, Recs: []impl.Rec{{Tx: 1, Kind: impl.RecSet, Oid: oid, After: numbered(1)}, {Tx: 1, Kind: impl.RecSet, Oid: 3, After: numbered(2)}, {Tx: 1, Kind: impl.RecCommit}}}
		if got := impl.Committed(l); len(got) != 32 || got[0].Has || !sameViews(got, plainCommitted(l)) || !sameSlot(got[3], numbered(2)) {
			t.Errorf("Oid %d: %v", oid, got)
		}
	}
	for _, tx := range []int{0, -1, impl.MaxTx + 1, math.MaxInt64, math.MinInt64} {
		l := impl.Log{Recs: []impl.Rec{{Lsn: 9, Tx: tx, Kind: impl.RecCommit}, {Lsn: 3, Tx: tx, Kind: impl.RecSet, Oid: 31, After: numbered(3)}, {Lsn: 3, Tx: 5, Kind: impl.RecSet, Oid: 31, After: numbered(4)}}}
		if got := impl.Committed(l); !sameSlot(got[31], numbered(3)) || !sameViews(got, plainCommitted(l)) {
			t.Errorf("Tx %d: %v", tx, got)
		}
	}
	for _, s := range wrongSlots() {
		l := logWith(setRec(1, 5, s), rec(1, impl.RecCommit))
		if got := impl.Committed(l); impl.LogOk(l) || !sameSlot(got[5], s) {
			t.Errorf("%v: %v", s, got[5])
		}
	}
	for _, l := range append(wrongLogs(), sampleLogs()...) {
		if got := impl.Committed(l); !sameViews(got, plainCommitted(l)) {
			t.Fatalf("%v, want %v", got, plainCommitted(l))
		}
	}
}

// threeEngine has two that are under way and one that is committed, all with their records between one another, and no page written.
func threeEngine(t *testing.T) engMaker {
	t.Helper()
	return engineOf(t, begin(), begin(), begin(), set(1, 5, numbered(1)), set(2, 9, numbered(2)), set(3, 13, numbered(3)), set(1, 6, numbered(4)), set(2, 9, numbered(5)), commit(3))
}

func TestRestart(t *testing.T) {
	down := checkCrash(t, threeEngine(t).e, 0)
	up := checkUp(t, down, allSteps)
	back := func(lsn int, tx int, prev int, oid int, after impl.Slot, next int) impl.Rec {
		return impl.Rec{Lsn: lsn, Tx: tx, Prev: prev, Kind: impl.RecBack, Oid: oid, After: after, Next: next}
	}
	want := append(slices.Clone(down.Log.Recs), back(7, 2, 5, 9, numbered(2), 2), back(8, 1, 4, 6, impl.Slot{}, 1), back(9, 2, 7, 9, impl.Slot{}, 0), back(10, 1, 8, 5, impl.Slot{}, 0),
		impl.Rec{Lsn: 11, Tx: 1, Prev: 10, Kind: impl.RecEnd}, impl.Rec{Lsn: 12, Tx: 2, Prev: 9, Kind: impl.RecEnd})
	if !sameLogs(up.Log, impl.Log{Recs: want, Sure: 12}) {
		t.Errorf("the log: %+v", up.Log)
	}
	if up.Next != 4 || len(up.Txs)+len(up.Holds) != 0 || len(up.Pool.Seats) != 3 {
		t.Errorf("%+v", up)
	}
	for no, p := range up.Disk {
		if !isZeroPage(p) {
			t.Errorf("nobody had to go, but page %d was written: %v", no, p)
		}
	}
	for _, s := range up.Pool.Seats {
		if lsn := map[int]int{1: 10, 2: 9, 3: 3}[s.No]; s.P.Lsn != lsn || !s.Dirty || !s.Hot {
			t.Errorf("the seat of page %d: %+v", s.No, s)
		}
	}
	view := make([]impl.Slot, impl.MaxOid+1)
	view[13] = numbered(3)
	checkRisen(t, up, view)
	checkGets(t, up, view)
	// It goes on as any other does.
	m := engMaker{t, up}.then(begin(), set(4, 5, numbered(7)), commit(4))
	view[5] = numbered(7)
	checkRisen(t, checkUp(t, checkCrash(t, m.e, 0), allSteps), view)
}

func TestRestartOfNothing(t *testing.T) {
	for _, limit := range []int{0, 1, allSteps, math.MaxInt64} {
		for _, next := range []int{1, 2, 700, impl.MaxTx + 1} {
			up := checkUp(t, impl.Engine{Next: next, Down: true}, limit)
			if !sameEngines(up, impl.EngineNew()) {
				t.Errorf("limit %d, Next %d: %+v", limit, next, up)
			}
		}
	}
	// Who began, but told nothing, is as if it had never been.
	m := engineOf(t, begin(), begin(), begin())
	if up := checkUp(t, checkCrash(t, m.e, 5), 0); !sameEngines(up, impl.EngineNew()) {
		t.Errorf("%+v", up)
	}
}

func TestNextBehindARestart(t *testing.T) {
	m := engineOf(t, begin(), begin(), begin(), begin(), set(2, 5, numbered(1)), check(), set(3, 6, numbered(2)), set(4, 7, numbered(3)))
	for keep, next := range []int{3, 4, 5, 5} {
		up := checkUp(t, checkCrash(t, m.e, keep), allSteps)
		if up.Next != next {
			t.Errorf("keep %d: Next %d, want %d", keep, up.Next, next)
		}
		if _, tx, code := impl.Begin(up); tx != next || code != impl.EngGood {
			t.Errorf("keep %d: begins %d, code %d", keep, tx, code)
		}
	}
	// A check tells nobody's Tx but by its Txs.
	if up := checkUp(t, checkCrash(t, engineOf(t, begin(), begin(), check(), check()).e, 0), 0); up.Next != 1 || len(up.Log.Recs) != 2 {
		t.Errorf("%+v", up)
	}
	// The greatest need not be the last, and is told by any kind.
	for _, kind := range []int{impl.RecCommit, impl.RecAbort, impl.RecEnd} {
		up := checkUp(t, downWith(logWith(rec(1, impl.RecEnd), rec(impl.MaxTx, kind), rec(7, impl.RecEnd))), allSteps)
		if up.Next != impl.MaxTx+1 {
			t.Errorf("kind %d: %d", kind, up.Next)
		}
		checkCode(t, up, begin(), impl.EngFull)
	}
	// What is stopped has the Next that it had, and so has what crashes.
	high := checkCrash(t, threeEngine(t).e, 0)
	high.Next = 77
	if out := checkStopped(t, high, 8); out.Next != 77 {
		t.Errorf("stopped: %d", out.Next)
	}
	if up := checkUp(t, high, 11); up.Next != 4 {
		t.Errorf("up: %d", up.Next)
	}
	// Who is told by a check alone is one of the log behind its end.
	if up := checkUp(t, impl.Engine{Log: logWith(rec(1, impl.RecEnd), checkRec(impl.Live{Tx: 50, Last: 1})), Next: 60, Down: true}, allSteps); up.Next != 51 || !sameRecs(up.Log.Recs[2], impl.Rec{Lsn: 3, Tx: 50, Prev: 1, Kind: impl.RecEnd}) {
		t.Errorf("%+v", up)
	}
}

// stepsOf is the least limit with which a restart is not stopped.
func stepsOf(t *testing.T, e impl.Engine) int {
	t.Helper()
	for limit := range allSteps {
		if _, up := impl.Restart(e, limit); up {
			return limit
		}
	}
	t.Fatal("it never comes up")
	return 0
}

// Of the steps five do again, four undo and two end.
func TestRestartAtEveryLimit(t *testing.T) {
	down := checkCrash(t, threeEngine(t).e, 0)
	up := checkUp(t, down, allSteps)
	if steps := stepsOf(t, down); steps != 11 {
		t.Fatalf("%d steps", steps)
	}
	for limit := range 11 {
		out := checkStopped(t, down, limit)
		recs := 6 + max(0, limit-5)
		if !sameLogs(out.Log, impl.Log{Recs: up.Log.Recs[:recs], Sure: 6}) || out.Next != down.Next || !impl.EngineOk(out) {
			t.Errorf("limit %d: %+v", limit, out.Log)
		}
		if left := len(impl.Losers(out.Log)); left != 2-max(0, limit-9) {
			t.Errorf("limit %d: %d are left", limit, left)
		}
		// It is begun again as it is, or behind a crash that keeps what it may.
		for _, again := range []impl.Engine{out, checkCrash(t, out, 0), checkCrash(t, out, 1), checkCrash(t, out, 3), checkCrash(t, out, 9)} {
			if risen := checkUp(t, again, allSteps); !sameLogs(risen.Log, up.Log) {
				t.Errorf("limit %d: %+v", limit, risen.Log)
			}
		}
	}
	for _, limit := range []int{11, 12, 100, math.MaxInt64} {
		if out := checkUp(t, down, limit); !sameEngines(out, up) {
			t.Errorf("limit %d: %+v", limit, out)
		}
	}
}

// fourPages has changed one page more than there are seats, none of which is written, and then these records.
func fourPages(behind ...impl.Rec) impl.Engine {
	recs := []impl.Rec{setRec(1, 1, numbered(1)), setRec(1, 5, numbered(2)), setRec(1, 9, numbered(3)), setRec(1, 13, numbered(4))}
	return downWith(logWith(append(recs, behind...)...))
}

// What is to be done again is known of the page alone: it is fetched though the step is not done, and who goes for it is written.
func TestARestartStoppedWhileDoingAgain(t *testing.T) {
	down := fourPages(rec(1, impl.RecCommit), rec(1, impl.RecEnd))
	down.Log.Sure = 0
	for limit, lsn := range []int{0, 0, 0, 1} {
		out := checkStopped(t, down, limit)
		if out.Disk[0].Lsn != lsn || out.Log.Sure != lsn || out.Disk[1].Lsn+out.Disk[2].Lsn+out.Disk[3].Lsn != 0 || len(out.Log.Recs) != 6 {
			t.Errorf("limit %d: %+v", limit, out)
		}
	}
	// With what is written one step fewer is to be done.
	out := checkCrash(t, checkStopped(t, down, 3), 9)
	if first, again := stepsOf(t, down), stepsOf(t, out); first != 4 || again != 3 {
		t.Errorf("%d steps, then %d", first, again)
	}
}

// What is undone is told ahead of its page, so a step that is not done leaves page and log as they were.
func TestARestartStoppedWhileUndoing(t *testing.T) {
	down := fourPages(checkRec(impl.Live{Tx: 1, Last: 4}))
	for limit, wrote := range map[int][]int{4: {1, 0, 0, 0}, 5: {1, 0, 0, 0}, 6: {1, 0, 0, 0}, 7: {1, 0, 0, 0}, 8: {1, 8, 0, 0}} {
		out := checkStopped(t, down, limit)
		var lsns []int
		for _, p := range out.Disk[:4] {
			lsns = append(lsns, p.Lsn)
		}
		if !slices.Equal(lsns, wrote) || len(out.Log.Recs) != limit+1 || out.Log.Sure != max(5, slices.Max(wrote)) {
			t.Errorf("limit %d: pages %v, %d records, sure %d", limit, lsns, len(out.Log.Recs), out.Log.Sure)
		}
	}
	if steps := stepsOf(t, down); steps != 9 {
		t.Errorf("%d steps", steps)
	}
}

// An abort that a crash cut off is gone on with, so that the log is as if it had not been cut off.
func TestAnAbortThatIsCutOff(t *testing.T) {
	m := engineOf(t, begin(), set(1, 5, numbered(9)), commit(1), begin(), set(2, 5, numbered(1)), set(2, 6, numbered(2)), set(2, 5, numbered(3)), flush(1))
	whole := m.then(abort(2)).e
	if len(whole.Log.Recs) != 11 || whole.Log.Sure != 6 {
		t.Fatalf("%+v", whole.Log)
	}
	view := make([]impl.Slot, impl.MaxOid+1)
	view[5] = numbered(9)
	for keep, x := range []struct {
		aborts bool
		undone int
		ended  bool
	}{{}, {true, 0, false}, {true, 1, false}, {true, 2, false}, {true, 3, false}, {true, 3, true}} {
		down := checkCrash(t, whole, keep)
		losers := []impl.Live{{Tx: 2, Last: 6 + keep, Aborts: x.aborts}}
		if x.ended {
			losers = nil
		}
		if got := impl.Losers(down.Log); !slices.Equal(got, losers) {
			t.Errorf("keep %d: %v", keep, got)
		}
		up := checkUp(t, down, allSteps)
		checkRisen(t, up, view)
		if x.aborts && !sameLogs(up.Log, impl.Log{Recs: whole.Log.Recs, Sure: 11}) {
			t.Errorf("keep %d: %+v", keep, up.Log)
		}
		told := len(up.Log.Recs) - len(down.Log.Recs)
		if want := 3 - x.undone + len(losers); told != want {
			t.Errorf("keep %d: %d are told, want %d", keep, told, want)
		}
	}
}

// A commit of which the end was lost is one: nothing is undone, and nothing more is told of it, now or later.
func TestACommitWithoutItsEnd(t *testing.T) {
	m := engineOf(t, begin(), begin(), set(1, 5, numbered(1)), set(2, 9, numbered(2)), set(1, 21, numbered(3)), commit(1))
	view := make([]impl.Slot, impl.MaxOid+1)
	view[5], view[21] = numbered(1), numbered(3)
	down := checkCrash(t, m.e, 0)
	if last := down.Log.Recs[len(down.Log.Recs)-1]; last.Kind != impl.RecCommit {
		t.Fatalf("%+v", last)
	}
	for range 3 {
		up := checkUp(t, down, allSteps)
		checkRisen(t, up, view)
		for _, r := range up.Log.Recs {
			if r.Tx == 1 && (r.Kind == impl.RecEnd || r.Kind == impl.RecBack) {
				t.Errorf("%+v", r)
			}
		}
		down = checkCrash(t, engMaker{t, up}.then(check()).e, 0)
	}
}

// A page that was written with what is not committed is undone; one that was not, with what is, is done again.
func TestPagesWrittenAndNotWritten(t *testing.T) {
	m := engineOf(t, begin(), set(1, 5, numbered(1)), set(1, 9, numbered(2)), commit(1), begin(), begin(), set(2, 5, numbered(3)), set(2, 6, numbered(4)), set(3, 9, numbered(5)), set(3, 29, numbered(6)), commit(3))
	view := make([]impl.Slot, impl.MaxOid+1)
	view[5], view[9], view[29] = numbered(1), numbered(5), numbered(6)
	for pages := range 8 {
		e := m.e
		for i, no := range []int{1, 2, 7} {
			if pages>>i&1 == 1 {
				e = engMaker{t, e}.then(flush(no)).e
			}
		}
		for keep := range 3 {
			down := checkCrash(t, e, keep)
			if !sameViews(impl.Committed(down.Log), view) {
				t.Errorf("committed: %v", impl.Committed(down.Log))
			}
			checkRisen(t, checkUp(t, down, allSteps), view)
			// What is on the disk already is no step.
			steps := 3
			for _, no := range []int{1, 2, 7} {
				for _, r := range down.Log.Recs {
					if r.Kind == impl.RecSet && r.Oid/4 == no && down.Disk[no].Lsn < r.Lsn {
						steps++
					}
				}
			}
			if got := stepsOf(t, down); got != steps {
				t.Errorf("%d steps, want %d", got, steps)
			}
		}
	}
}

// The hand of one that is Down is where it is: from there on the first page goes.
func TestRestartBeginsWhereTheHandIs(t *testing.T) {
	down := fourPages(rec(1, impl.RecCommit))
	for hand := range 3 {
		down.Pool.Hand = hand
		up := checkUp(t, down, allSteps)
		if up.Pool.Hand != (hand+1)%3 || up.Disk[hand].Lsn != hand+1 || up.Pool.Seats[hand].No != 3 {
			t.Errorf("hand %d: %+v", hand, up.Pool)
		}
		if out := checkStopped(t, down, 3); out.Pool.Hand != 0 {
			t.Errorf("hand %d: stopped at %d", hand, out.Pool.Hand)
		}
	}
}

// longDown has a log of count records, the first sets of which are of one transaction that is under way, and go over twice as many pages as there are seats.
func longDown(count int, sets int) impl.Engine {
	e := impl.Engine{Log: impl.Log{Sure: count}, Next: 4, Down: true}
	was := map[int]impl.Slot{}
	for i := range count {
		r := impl.Rec{Lsn: i + 1, Tx: 1, Kind: impl.RecEnd}
		if i < sets {
			oid := 5 + 4*(i%6)
			r = impl.Rec{Lsn: i + 1, Tx: 2, Prev: i, Kind: impl.RecSet, Oid: oid, Before: was[oid], After: numbered(i)}
			was[oid] = r.After
		}
		e.Log.Recs = append(e.Log.Recs, r)
	}
	return e
}

func TestRestartAtTheEdgeOfTheLog(t *testing.T) {
	for _, sets := range []int{1, 2, 9} {
		for room := range sets + 4 {
			down := longDown(impl.MaxRecs-room, sets)
			if room > sets {
				up := checkUp(t, down, allSteps)
				if len(up.Log.Recs) != impl.MaxRecs-room+sets+1 {
					t.Errorf("%d sets, room for %d: %d records", sets, room, len(up.Log.Recs))
				}
				checkRisen(t, up, make([]impl.Slot, impl.MaxOid+1))
				checkStopped(t, down, 2*sets)
				continue
			}
			out := checkStopped(t, down, allSteps)
			if len(out.Log.Recs) != impl.MaxRecs || out.Log.Sure < impl.MaxRecs-room || !impl.EngineOk(out) {
				t.Errorf("%d sets, room for %d: %d records, sure %d", sets, room, len(out.Log.Recs), out.Log.Sure)
			}
			// A log that has no room has none the next time either; with what was not sure lost it has as much again.
			for _, again := range []impl.Engine{out, checkCrash(t, out, 0), checkCrash(t, out, 1)} {
				if again := checkStopped(t, again, allSteps); !slices.EqualFunc(again.Log.Recs, out.Log.Recs, sameRecs) || !impl.EngineOk(again) {
					t.Errorf("%d sets, room for %d, again: %+v", sets, room, brief(again))
				}
			}
		}
	}
	// What is done again and nobody that must be undone needs no room.
	full := longDown(impl.MaxRecs, 3)
	full.Log.Recs[3] = impl.Rec{Lsn: 4, Tx: 2, Prev: 3, Kind: impl.RecCommit}
	up := checkUp(t, full, 3)
	if len(up.Log.Recs) != impl.MaxRecs {
		t.Errorf("%+v", brief(up))
	}
	view := make([]impl.Slot, impl.MaxOid+1)
	view[5], view[9], view[13] = numbered(0), numbered(1), numbered(2)
	checkRisen(t, up, view)
	checkStopped(t, full, 2)
}

func TestRestartOfALongLog(t *testing.T) {
	down := longDown(1999, 1999)
	up := checkUp(t, down, allSteps)
	if len(up.Log.Recs) != 3999 {
		t.Errorf("%d records", len(up.Log.Recs))
	}
	checkRisen(t, up, make([]impl.Slot, impl.MaxOid+1))
	checkUp(t, down, 3999)
	checkStopped(t, down, 3998)
	checkStopped(t, longDown(2000, 2000), allSteps)
}

func TestRestartRefuses(t *testing.T) {
	limits := []int{0, 1, 3, allSteps, math.MaxInt64}
	for _, w := range wrongEngines(t) {
		for _, limit := range append(limits, -1) {
			if got, up := impl.Restart(w.e, limit); up || !sameEngines(got, w.e) {
				t.Fatalf("%s, limit %d: %v, %+v", w.why, limit, up, brief(got))
			}
		}
	}
	for _, e := range goodEngines(t) {
		for _, limit := range append(limits, belowNought...) {
			got, up := checkRestart(t, e, limit)
			if (limit < 0 || !e.Down) && (up || !sameEngines(got, e)) {
				t.Fatalf("limit %d: %v, %+v", limit, up, brief(got))
			}
		}
	}
	// An engine that is up again is not Down, nor is one that never was.
	for _, e := range []impl.Engine{impl.EngineNew(), checkUp(t, downEngine(t), allSteps), threeEngine(t).e} {
		if got, up := checkRestart(t, e, allSteps); up || !sameEngines(got, e) {
			t.Errorf("%v, %+v", up, got)
		}
	}
}

// anyRight is a record that is right with this Lsn, and otherwise by chance.
func anyRight(r *turns, lsn int) impl.Rec {
	slots := sampleSlots()
	out := impl.Rec{Lsn: lsn, Tx: 1 + r.below(5), Prev: r.below(lsn), Kind: []int{1, 1, 1, 1, 2, 3, 4, 4, 5, 6}[r.below(10)]}
	switch out.Kind {
	case 1:
		out.Oid, out.Before, out.After = 1+r.below(31), slots[r.below(len(slots))], slots[r.below(len(slots))]
	case 4:
		out.Oid, out.After, out.Next = 1+r.below(31), slots[r.below(len(slots))], r.below(lsn)
	case 6:
		out.Tx, out.Prev = 0, 0
		for tx := 1; tx <= 7 && lsn > 1; tx++ {
			if r.below(3) == 0 {
				out.Txs = append(out.Txs, impl.Live{Tx: tx, Last: 1 + r.below(lsn-1), Aborts: r.below(2) == 0})
			}
		}
	}
	return out
}

// anyDown is an engine that is Down and right, but came of no calls: its records hang together in any way at all.
func anyDown(r *turns) impl.Engine {
	e := impl.Engine{Next: 8 + r.below(3), Down: true, Pool: impl.Pool{Hand: r.below(3)}}
	for lsn := 1; lsn <= r.below(28)+1; lsn++ {
		e.Log.Recs = append(e.Log.Recs, anyRight(r, lsn))
	}
	e.Log.Sure = r.below(len(e.Log.Recs) + 1)
	slots := sampleSlots()
	for no := range e.Disk {
		e.Disk[no].Lsn = r.below(e.Log.Sure + 1)
		e.Disk[no].Slots[r.below(4)] = slots[r.below(len(slots))]
	}
	return e
}

func TestRestartOfManyEngines(t *testing.T) {
	r := &turns{8}
	found := map[bool]int{}
	for range 6000 {
		e := anyDown(r)
		if !slices.Equal(impl.Losers(e.Log), plainLosers(e.Log)) || !sameViews(impl.Committed(e.Log), plainCommitted(e.Log)) {
			t.Fatalf("losers %v, committed %v: %+v", impl.Losers(e.Log), impl.Committed(e.Log), e.Log)
		}
		for range 4 {
			out, up := checkRestart(t, e, r.below(40))
			found[up]++
			if up {
				break
			}
			e = out
			if r.below(2) == 0 {
				e = checkCrash(t, out, r.below(8))
			}
		}
	}
	if found[true] < 1000 || found[false] < 1000 {
		t.Errorf("too few: %v", found)
	}
}

// fall ends all that is under way, as if it had never been.
func (h truth) fall() {
	for tx := range h.were {
		h.end(tx, false)
	}
}

// view is what is there of each object.
func (h truth) view() []impl.Slot {
	out := make([]impl.Slot, impl.MaxOid+1)
	for oid, s := range h.now {
		out[oid] = s
	}
	return out
}

// riseByPieces crashes and begins again, by chance, until it is up; what it answers is how often it was cut off.
func riseByPieces(t *testing.T, r *turns, down impl.Engine, view []impl.Slot) (impl.Engine, int) {
	t.Helper()
	for cut := 0; ; cut++ {
		if !sameViews(impl.Committed(down.Log), view) {
			t.Fatalf("cut off %d times: committed is %v, was %v", cut, impl.Committed(down.Log), view)
		}
		// The limits grow, as a restart that comes to nothing sure would be begun again for ever.
		out, up := checkRestart(t, down, r.below(6+4*cut))
		if !impl.EngineOk(out) {
			t.Fatalf("a restart leaves what is no engine: %+v", brief(out))
		}
		if up {
			return out, cut
		}
		if r.below(4) > 0 {
			out = checkCrash(t, out, r.below(5))
		}
		down = out
	}
}

// The promise, of many calls with crashes between them, and crashes within the restarts.
func TestWhatWasCommittedOutlivesCrashes(t *testing.T) {
	cuts, lost, losers := 0, 0, 0
	for walk := range 60 {
		r := &turns{500 + 77*walk}
		e, h := impl.EngineNew(), newTruth()
		for range 5 {
			for range r.below(90) {
				c := nextCall(r, e)
				a := callEngine(e, c)
				if a.code == impl.EngGood {
					h.note(c)
				}
				e = a.e
			}
			h.fall()
			unsure := len(e.Log.Recs) - e.Log.Sure
			down := checkCrash(t, e, []int{0, unsure / 2, r.below(unsure + 1), unsure, unsure + 3}[r.below(5)])
			if len(down.Log.Recs) < len(e.Log.Recs) {
				lost++
			}
			losers += len(impl.Losers(down.Log))
			up, cut := riseByPieces(t, r, down, h.view())
			cuts += cut
			checkRisen(t, up, h.view())
			checkGets(t, up, h.view())
			checkTruth(t, up, h)
			e = up
		}
	}
	if cuts < 300 || lost < 50 || losers < 100 {
		t.Errorf("too few: cut off %d times, %d times something was lost, %d had to be undone", cuts, lost, losers)
	}
}

// The promise, of every way of a few calls, every keep, every limit, and every keep of the crash behind that.
func TestWhatWasCommittedOfAllShortWays(t *testing.T) {
	calls := []engCall{set(1, 5, numbered(1)), set(2, 6, numbered(3)), set(2, 21, numbered(4)), commit(1), abort(2), check(), flush(1)}
	var walk func(m engMaker, left int)
	walk = func(m engMaker, left int) {
		for keep := range len(m.e.Log.Recs) - m.e.Log.Sure + 1 {
			checkEveryCut(t, checkCrash(t, m.e, keep))
		}
		for _, c := range calls {
			if a := callEngine(m.e, c); left > 0 && a.code == impl.EngGood {
				walk(engMaker{t, a.e}, left-1)
			}
		}
	}
	walk(engineOf(t, begin(), begin(), set(1, 1, numbered(7)), set(1, 9, numbered(8)), set(2, 13, numbered(9))), 3)
}

// checkEveryCut stops a restart at every limit there is, crashes it in every way, and brings it up again.
func checkEveryCut(t *testing.T, down impl.Engine) {
	t.Helper()
	view := plainCommitted(down.Log)
	for limit := 0; ; limit++ {
		out, up := impl.Restart(down, limit)
		if up {
			checkRisen(t, out, view)
			return
		}
		for keep := range len(out.Log.Recs) - out.Log.Sure + 1 {
			again, up := impl.Restart(impl.Crash(out, keep), allSteps)
			if !up {
				t.Fatalf("limit %d, keep %d: stopped", limit, keep)
			}
			checkRisen(t, again, view)
		}
	}
}

// A restart that is cut off one step on each time comes up with what was sure alone.
func TestRestartsCutOffAgainAndAgain(t *testing.T) {
	m := engineOf(t, begin(), begin(), set(1, 1, numbered(1)), set(1, 5, numbered(2)), commit(1))
	for i := range 12 {
		m = m.then(set(2, 1+(7*i)%31, numbered(20+i)))
	}
	e := m.then(check()).e
	for _, keep := range []int{0, 1, math.MaxInt64} {
		down := checkCrash(t, e, 0)
		view := impl.Committed(down.Log)
		cuts := 0
		for limit := 0; ; limit++ {
			out, up := checkRestart(t, down, limit)
			if up {
				checkRisen(t, out, view)
				break
			}
			if !sameViews(impl.Committed(out.Log), view) || !impl.EngineOk(out) {
				t.Fatalf("limit %d: %+v", limit, brief(out))
			}
			down = checkCrash(t, out, keep)
			cuts++
		}
		if cuts < 5 {
			t.Errorf("keep %d: cut off %d times only", keep, cuts)
		}
	}
}

// downRoom is the engine of engineRoom once it is Down, so that a restart of it has something to do in each of its parts.
func downRoom() (impl.Engine, func() bool) {
	e, kept := engineRoom()
	e.Log.Recs, e.Log.Sure = e.Log.Recs[:7], 5
	e.Pool, e.Txs, e.Holds, e.Down = impl.Pool{}, nil, nil, true
	for no := range e.Disk {
		e.Disk[no].Lsn = no % 3
	}
	return e, kept
}

func TestRestartArgumentsAreLeft(t *testing.T) {
	down, kept := downRoom()
	if !impl.EngineOk(down) || stepsOf(t, down) < 5 || !kept() {
		t.Fatalf("the engine is one: %+v", down)
	}
	up, upKept := engineRoom()
	wrong := down
	wrong.Next = 0
	for _, e := range []impl.Engine{down, up, wrong} {
		for n := -1; n < 12; n++ {
			risen, _ := impl.Restart(e, n)
			fallen := impl.Crash(e, n)
			losers, view := impl.Losers(e.Log), impl.Committed(e.Log)
			if !kept() || !upKept() {
				t.Fatalf("%d: an argument was written into", n)
			}
			scribbleEngine(risen)
			scribbleEngine(fallen)
			clear(losers[:cap(losers)])
			for _, s := range view {
				scribble(s.O.Ints)
				scribble(s.O.Refs)
			}
			if !kept() || !upKept() {
				t.Fatalf("%d: an argument is shared", n)
			}
		}
	}
}

// sharedDown is an engine that is Down, all objects of which share one list.
func sharedDown(list []int) impl.Engine {
	s := slotOf(7, list, list)
	var recs []impl.Rec
	for i := range 9 {
		recs = append(recs, impl.Rec{Tx: 1 + i%2, Kind: impl.RecSet, Oid: 1 + (4*i)%20, Before: s, After: s})
	}
	lives := []impl.Live{{Tx: 1, Last: 9}, {Tx: 2, Last: 8}}
	recs = append(recs, checkRec(lives...), impl.Rec{Tx: 3, Kind: impl.RecSet, Oid: 31, Before: s, After: s}, impl.Rec{Tx: 3, Kind: impl.RecSet, Oid: 30, After: s}, rec(3, impl.RecCommit), checkRec(lives...))
	e := downWith(logWith(recs...))
	for no := range e.Disk {
		e.Disk[no].Slots[0], e.Disk[no].Slots[3] = s, s
	}
	return e
}

func TestRestartAnswersShareNothing(t *testing.T) {
	list := []int{1, 2, 3}
	e := sharedDown(list)
	wrong := e
	wrong.Next = 0
	answers := []func() impl.Engine{func() impl.Engine { return impl.Crash(e, 0) }, func() impl.Engine { return impl.Crash(wrong, 0) }}
	for _, limit := range []int{-1, 0, 3, 9, 12, 15, 20, 23, allSteps} {
		answers = append(answers, func() impl.Engine { out, _ := impl.Restart(e, limit); return out }, func() impl.Engine { out, _ := impl.Restart(wrong, limit); return out })
	}
	for n, answer := range answers {
		lists, lives := engineLists(engAnswer{e: answer()}), liveLists(engAnswer{e: answer()})
		for i := range lists {
			got := engineLists(engAnswer{e: answer()})
			scribble(got[i])
			for j := range got {
				if j != i && !slices.Equal(got[j], lists[j]) {
					t.Fatalf("answer %d: list %d changed with list %d", n, j, i)
				}
			}
		}
		for i := range lives {
			got := liveLists(engAnswer{e: answer()})
			clear(got[i][:cap(got[i])])
			for j := range got {
				if j != i && !slices.Equal(got[j], lives[j]) {
					t.Fatalf("answer %d: the transactions at %d changed with those at %d", n, j, i)
				}
			}
		}
	}
	if !slices.Equal(list, []int{1, 2, 3}) {
		t.Errorf("an answer shares memory with an argument: %v", list)
	}
}

func TestCommittedSharesNothing(t *testing.T) {
	list := []int{1, 2, 3}
	l := sharedDown(list).Log
	want := impl.Committed(l)
	for oid := range want {
		for _, part := range []func(o impl.Obj) []int{func(o impl.Obj) []int { return o.Ints }, func(o impl.Obj) []int { return o.Refs }} {
			got := impl.Committed(l)
			scribble(part(got[oid].O))
			for other := range got {
				if other != oid && !sameSlot(got[other], want[other]) {
					t.Fatalf("object %d changed with object %d", other, oid)
				}
			}
			if o := got[oid].O; len(o.Ints) > 0 && !slices.Equal(o.Ints, list) && !slices.Equal(o.Refs, list) {
				t.Fatalf("object %d: its lists share memory: %v", oid, o)
			}
		}
	}
	if !want[30].Has || !want[31].Has || !slices.Equal(list, []int{1, 2, 3}) {
		t.Errorf("%v, %v", want, list)
	}
}

func TestRestartCallsKeepNothing(t *testing.T) {
	down := checkCrash(t, threeEngine(t).e, 1)
	var first []impl.Engine
	for limit := range 13 {
		out, _ := impl.Restart(down, limit)
		first = append(first, out)
	}
	for _, w := range wrongEngines(t)[:200] {
		for limit := range 3 {
			out, _ := impl.Restart(w.e, limit)
			scribbleEngine(out)
			scribbleEngine(impl.Crash(w.e, limit))
		}
	}
	for range 2 {
		for limit := 12; limit >= 0; limit-- {
			out, _ := impl.Restart(down, limit)
			if !sameEngines(out, first[limit]) {
				t.Errorf("limit %d: what was called ahead is seen: %+v", limit, out)
			}
			scribbleEngine(out)
			scribbleEngine(impl.Crash(down, limit))
		}
	}
}
