package tests

import (
	"fmt"
	"math"
	"slices"
	"testing"

	"loop.example/g00181/impl"
)

func evBegin() impl.Event                { return impl.Event{Kind: impl.EvBegin} }
func evCommit(k int) impl.Event          { return impl.Event{Kind: impl.EvCommit, K: k} }
func evAbort(k int) impl.Event           { return impl.Event{Kind: impl.EvAbort, K: k} }
func evFlush(no int) impl.Event          { return impl.Event{Kind: impl.EvFlush, N: no} }
func evCheck() impl.Event                { return impl.Event{Kind: impl.EvCheck} }
func evGet(oid int) impl.Event           { return impl.Event{Kind: impl.EvGet, Oid: oid} }
func evCrash(keep int) impl.Event        { return impl.Event{Kind: impl.EvCrash, N: keep} }
func evRestart(limit int) impl.Event     { return impl.Event{Kind: impl.EvRestart, N: limit} }
func evCollect(root int) impl.Event      { return impl.Event{Kind: impl.EvCollect, Oid: root} }
func deepEvent(ev impl.Event) impl.Event { ev.S = deepSlot(ev.S); return ev }

func evSet(k int, oid int, s impl.Slot) impl.Event {
	return impl.Event{Kind: impl.EvSet, K: k, Oid: oid, S: s}
}

func deepEvents(list []impl.Event) []impl.Event {
	var out []impl.Event
	for _, ev := range list {
		out = append(out, deepEvent(ev))
	}
	return out
}

func sameEvent(a impl.Event, b impl.Event) bool {
	return a.Kind == b.Kind && a.K == b.K && a.Oid == b.Oid && a.N == b.N && sameSlot(a.S, b.S)
}

// kinds are all that an event may be.
var kinds = []int{impl.EvBegin, impl.EvSet, impl.EvCommit, impl.EvAbort, impl.EvFlush, impl.EvCheck, impl.EvGet, impl.EvCrash, impl.EvRestart, impl.EvCollect}

var wrongKinds = []int{0, -1, -10, 11, 12, math.MaxInt64, math.MinInt64}

// ofKth tells whether an event of this kind names one of Txs.
func ofKth(kind int) bool {
	return kind == impl.EvSet || kind == impl.EvCommit || kind == impl.EvAbort
}

// doAnswer is what Do answers.
type doAnswer struct {
	e    impl.Engine
	code int
}

func sameAnswers(a doAnswer, b doAnswer) bool { return a.code == b.code && sameEngines(a.e, b.e) }

func do(e impl.Engine, ev impl.Event) doAnswer {
	out, code := impl.Do(e, ev)
	return doAnswer{out, code}
}

// byItsCall is what the call answers that an event names.
func byItsCall(e impl.Engine, ev impl.Event) doAnswer {
	if ofKth(ev.Kind) && (ev.K < 0 || ev.K >= len(e.Txs)) {
		return doAnswer{e, impl.EngNone}
	}
	a := doAnswer{e, impl.EngForm}
	switch ev.Kind {
	case impl.EvBegin:
		a.e, _, a.code = impl.Begin(e)
	case impl.EvSet:
		a.e, a.code = impl.Set(e, e.Txs[ev.K].Tx, ev.Oid, ev.S)
	case impl.EvCommit:
		a.e, a.code = impl.Commit(e, e.Txs[ev.K].Tx)
	case impl.EvAbort:
		a.e, a.code = impl.Abort(e, e.Txs[ev.K].Tx)
	case impl.EvFlush:
		a.e, a.code = impl.Flush(e, ev.N)
	case impl.EvCheck:
		a.e, a.code = impl.Check(e)
	case impl.EvGet:
		a.e, _, a.code = impl.Get(e, ev.Oid)
	case impl.EvCollect:
		a.e, _, a.code = impl.Collect(e, ev.Oid)
	case impl.EvCrash:
		if impl.EngineOk(e) && ev.N >= 0 {
			a = doAnswer{impl.Crash(e, ev.N), impl.EngGood}
		}
	case impl.EvRestart:
		if impl.EngineOk(e) && e.Down && ev.N >= 0 {
			out, up := impl.Restart(e, ev.N)
			a.e, a.code = out, impl.EngBusy
			if up {
				a.code = impl.EngGood
			}
		}
	}
	return a
}

// plainDo is the chapter once more, by other means: over what the chapters ahead are held against.
func plainDo(e impl.Engine, ev impl.Event) doAnswer {
	names, tx := map[int]string{1: "begin", 2: "set", 3: "commit", 4: "abort", 5: "flush", 6: "check", 7: "get"}, 0
	if ofKth(ev.Kind) {
		if len(e.Txs) <= ev.K || ev.K < 0 {
			return doAnswer{e, 2}
		}
		tx = e.Txs[ev.K].Tx
	}
	wrong := !plainEngineOk(e) || ev.N < 0
	switch {
	case names[ev.Kind] != "":
		a := plainEngine(e, engCall{names[ev.Kind], tx, ev.Oid, ev.N, ev.S})
		return doAnswer{a.e, a.code}
	case ev.Kind == 8 && !wrong:
		return doAnswer{plainCrash(e, ev.N), 0}
	case ev.Kind == 9 && !wrong && e.Down:
		out, up := plainRestart(e, ev.N)
		return doAnswer{out, map[bool]int{false: 3}[up]}
	case ev.Kind == 10:
		a := plainCollect(e, ev.Oid)
		return doAnswer{a.e, a.code}
	}
	return doAnswer{e, 1}
}

// checkDo holds an event against the plain doing of it and against its call, and asks that what was handed in is as it was.
func checkDo(t *testing.T, e impl.Engine, ev impl.Event) doAnswer {
	t.Helper()
	was, given := deepEngine(e), deepEvent(ev)
	got, want := do(e, ev), plainDo(was, given)
	if got.code != want.code {
		t.Fatalf("%+v: code %d, want %d: %+v", ev, got.code, want.code, brief(was))
	}
	if !sameEngines(got.e, want.e) {
		t.Fatalf("%+v, code %d: another engine:\n%+v\nwant:\n%+v", ev, got.code, brief(got.e), brief(want.e))
	}
	if !sameAnswers(got, byItsCall(was, given)) {
		t.Fatalf("%+v, code %d: not as by its call: %+v", ev, got.code, brief(got.e))
	}
	if !sameEngines(e, was) || !sameEvent(ev, given) {
		t.Fatalf("%+v, code %d: what was handed in changed", ev, got.code)
	}
	return got
}

// checkDone asks for the code, too; and that what is refused is answered as it was.
func checkDone(t *testing.T, why string, e impl.Engine, ev impl.Event, code int) impl.Engine {
	t.Helper()
	a := checkDo(t, e, ev)
	stopped := ev.Kind == impl.EvRestart && code == impl.EngBusy
	if a.code != code || code != impl.EngGood && !stopped && !sameEngines(a.e, e) {
		t.Fatalf("%s: %+v: code %d, want %d: %+v", why, ev, a.code, code, brief(a.e))
	}
	return a.e
}

// checkPlay holds a play against its events one by one, those done by Do and those done by other means.
func checkPlay(t *testing.T, e impl.Engine, list []impl.Event) impl.Engine {
	t.Helper()
	was, given := deepEngine(e), deepEvents(list)
	got := impl.Play(e, list)
	if !sameEngines(e, was) || !slices.EqualFunc(list, given, sameEvent) {
		t.Fatalf("%d events: what was handed in changed", len(list))
	}
	want, plain := was, was
	for i := 0; i < len(given) && i < 200; i++ {
		want, plain = do(want, given[i]).e, plainDo(plain, given[i]).e
	}
	if !sameEngines(got, want) || !sameEngines(got, plain) {
		t.Fatalf("%d events: one play makes\n%+v\none by one\n%+v\nplainly\n%+v", len(list), brief(got), brief(want), brief(plain))
	}
	return got
}

func TestWorldConstants(t *testing.T) {
	if impl.MaxEvents != 200 {
		t.Errorf("MaxEvents %d", impl.MaxEvents)
	}
	if !slices.Equal(kinds, numbersUpTo(1, 10)) {
		t.Errorf("kinds %v", kinds)
	}
}

// One world worked out by hand: what each event is answered with, and what is then.
func TestAWorldByHand(t *testing.T) {
	one, two, three := numbered(1), numbered(2), slotOf(3, nil, []int{5})
	e, list := impl.EngineNew(), []impl.Event(nil)
	for i, x := range []struct {
		ev   impl.Event
		code int
		txs  []int
		recs int
		sure int
		down bool
	}{
		{evRestart(9), impl.EngForm, nil, 0, 0, false},
		{evBegin(), 0, []int{1}, 0, 0, false},
		{evBegin(), 0, []int{1, 2}, 0, 0, false},
		{evSet(1, 5, one), 0, []int{1, 2}, 1, 0, false},
		{evSet(0, 5, two), impl.EngBusy, []int{1, 2}, 1, 0, false},
		{evSet(0, 9, three), 0, []int{1, 2}, 2, 0, false},
		{evCollect(9), impl.EngBusy, []int{1, 2}, 2, 0, false},
		{evCommit(0), 0, []int{2}, 4, 3, false},
		{evCommit(1), impl.EngNone, []int{2}, 4, 3, false},
		{evSet(0, 6, two), 0, []int{2}, 5, 3, false},
		{evFlush(2), 0, []int{2}, 5, 3, false},
		{evFlush(1), 0, []int{2}, 5, 5, false},
		{evGet(31), 0, []int{2}, 5, 5, false},
		{evAbort(0), 0, nil, 9, 5, false},
		{evAbort(0), impl.EngNone, nil, 9, 5, false},
		{evBegin(), 0, []int{3}, 9, 5, false},
		// Three pages have seats: page 1, which was changed by the record 8, goes for page 0.
		{evSet(0, 1, two), 0, []int{3}, 10, 8, false},
		{evCheck(), 0, []int{3}, 11, 11, false},
		{evSet(0, 13, two), 0, []int{3}, 12, 11, false},
		{evCrash(-1), impl.EngForm, []int{3}, 12, 11, false},
		{evCrash(0), 0, nil, 11, 11, true},
		{evBegin(), impl.EngForm, nil, 11, 11, true},
		{evSet(0, 13, two), impl.EngNone, nil, 11, 11, true},
		{evRestart(-1), impl.EngForm, nil, 11, 11, true},
		// One record is to be done again, then undone, and its transaction ended.
		{evRestart(0), impl.EngBusy, nil, 11, 11, true},
		{evRestart(1), impl.EngBusy, nil, 11, 11, true},
		{evRestart(2), impl.EngBusy, nil, 12, 11, true},
		{evCrash(0), 0, nil, 11, 11, true},
		{evRestart(2), impl.EngBusy, nil, 12, 11, true},
		{evCrash(1), 0, nil, 12, 12, true},
		// Two are to be done again now, and nothing is left to be undone.
		{evRestart(2), impl.EngBusy, nil, 12, 12, true},
		{evRestart(3), 0, nil, 13, 13, false},
		{evRestart(5), impl.EngForm, nil, 13, 13, false},
		{evCollect(0), impl.EngForm, nil, 13, 13, false},
		{evCollect(1), 0, nil, 16, 15, false},
		{impl.Event{}, impl.EngForm, nil, 16, 15, false},
	} {
		e = checkDone(t, fmt.Sprint("event ", i), e, x.ev, x.code)
		var txs []int
		for _, live := range e.Txs {
			txs = append(txs, live.Tx)
		}
		if !slices.Equal(txs, x.txs) || len(e.Log.Recs) != x.recs || e.Log.Sure != x.sure || e.Down != x.down {
			t.Fatalf("event %d: %v under way, %d records, sure %d, down %v", i, txs, len(e.Log.Recs), e.Log.Sure, e.Down)
		}
		list = append(list, x.ev)
		if got := checkPlay(t, impl.EngineNew(), list); !sameEngines(got, e) {
			t.Fatalf("%d events as one play: %+v", i+1, brief(got))
		}
	}
	for oid, s := range viewOf(e) {
		if s.Has {
			t.Errorf("object %d is there: %v", oid, s)
		}
	}
}

// sixEngine has as many under way as may be, none at the place of its number; the first and the last hold something.
func sixEngine(t *testing.T) impl.Engine {
	t.Helper()
	m := engineOf(t, begin(), begin(), begin(), begin(), set(1, 1, numbered(1)), commit(1), begin(), abort(3), begin(), begin(), begin())
	return m.then(set(2, 5, numbered(2)), set(2, 6, numbered(3)), set(8, 31, numbered(4))).e
}

func TestTheKthOfTxs(t *testing.T) {
	e := sixEngine(t)
	txs := []int{2, 4, 5, 6, 7, 8}
	for k, tx := range txs {
		for _, x := range []struct {
			ev    impl.Event
			kinds []int
		}{{evSet(k, 20, numbered(9)), []int{impl.RecSet}}, {evCommit(k), []int{impl.RecCommit, impl.RecEnd}}, {evAbort(k), []int{impl.RecAbort, impl.RecEnd}}} {
			out := checkDone(t, "one of six", e, x.ev, impl.EngGood)
			var told []int
			for _, r := range out.Log.Recs[len(e.Log.Recs):] {
				if r.Tx != tx {
					t.Errorf("%+v is done by %d, must be by %d", x.ev, r.Tx, tx)
				}
				if r.Kind != impl.RecBack {
					told = append(told, r.Kind)
				}
			}
			if !slices.Equal(told, x.kinds) {
				t.Errorf("%+v told %v", x.ev, told)
			}
		}
	}
	// Of each number there are, from none to all: the first, the last, one more and below 0.
	for count := range len(txs) + 1 {
		for _, k := range []int{0, count - 1, count, count + 1, -1, -count, txs[0], txs[5], math.MaxInt64, math.MinInt64} {
			code := impl.EngNone
			if k >= 0 && k < count {
				code = impl.EngGood
			}
			few := e
			few.Txs, few.Holds = e.Txs[:count], nil
			checkDone(t, fmt.Sprint("of ", count), few, evSet(k, 20, numbered(9)), code)
			checkDone(t, fmt.Sprint("of ", count), few, evCommit(k), code)
			checkDone(t, fmt.Sprint("of ", count), few, evAbort(k), code)
		}
	}
	// Who is under way behind the others moves up.
	out := checkPlay(t, e, []impl.Event{evCommit(1), evCommit(1), evSet(1, 30, numbered(5)), evAbort(5), evCommit(2)})
	if last := out.Log.Recs[len(out.Log.Recs)-1]; !slices.Equal(out.Txs, []impl.Live{{Tx: 2, Last: out.Txs[0].Last}, {Tx: 6, Last: out.Txs[1].Last}, {Tx: 8, Last: out.Txs[2].Last}}) || last.Tx != 7 {
		t.Errorf("%v, %+v", out.Txs, last)
	}
}

func TestAnEngineWithoutTxs(t *testing.T) {
	for _, e := range []impl.Engine{impl.EngineNew(), fullEngine(t).e, longEngineOf(0), {Next: impl.MaxTx + 1}, downEngine(t)} {
		for _, k := range []int{0, 1, -1, 5, math.MaxInt64, math.MinInt64} {
			for _, kind := range kinds {
				ev := impl.Event{Kind: kind, K: k, Oid: 5, S: numbered(1), N: 1}
				a := checkDo(t, e, ev)
				if ofKth(kind) != (a.code == impl.EngNone) {
					t.Errorf("%+v: code %d", ev, a.code)
				}
			}
		}
	}
}

// longEngineOf has a log of so many records, and nobody under way.
func longEngineOf(count int) impl.Engine {
	e := longEngine(count, 0)
	e.Txs = nil
	return e
}

func TestEventsOfNoKind(t *testing.T) {
	var engines []impl.Engine
	for _, w := range wrongEngines(t) {
		engines = append(engines, w.e)
	}
	for _, e := range append(engines, append(goodEngines(t), impl.Engine{}, longEngine(impl.MaxRecs, 3))...) {
		for _, kind := range wrongKinds {
			for _, k := range []int{0, -1, 99} {
				ev := impl.Event{Kind: kind, K: k, Oid: 5, S: numbered(1), N: 1}
				if a := do(e, ev); a.code != impl.EngForm || !sameEngines(a.e, e) {
					t.Fatalf("kind %d: code %d, %+v", kind, a.code, brief(a.e))
				}
			}
		}
	}
	for _, kind := range wrongKinds {
		checkDone(t, "none", busyEngine(t), impl.Event{Kind: kind}, impl.EngForm)
		checkDone(t, "none, of nobody", impl.EngineNew(), impl.Event{Kind: kind}, impl.EngForm)
		checkDone(t, "none, of one that is down", downEngine(t), impl.Event{Kind: kind}, impl.EngForm)
	}
}

func TestACrashAsAnEvent(t *testing.T) {
	e := busyEngine(t)
	unsure := len(e.Log.Recs) - e.Log.Sure
	for _, keep := range append(keeps, unsure-1, unsure, unsure+1) {
		down := checkDone(t, "busy", e, evCrash(keep), impl.EngGood)
		if left := e.Log.Sure + min(keep, unsure); !down.Down || len(down.Log.Recs) != left || down.Log.Sure != left || len(down.Txs)+len(down.Holds)+len(down.Pool.Seats) != 0 {
			t.Errorf("keep %d: %+v", keep, brief(down))
		}
		// What is Down falls anew, and nothing more is lost.
		if again := checkDone(t, "down", down, evCrash(0), impl.EngGood); !sameEngines(again, down) {
			t.Errorf("keep %d: %+v", keep, brief(again))
		}
		if none := checkDone(t, "nothing in it", impl.EngineNew(), evCrash(keep), impl.EngGood); !sameEngines(none, impl.Engine{Next: 1, Down: true}) {
			t.Errorf("keep %d: %+v", keep, none)
		}
	}
	for _, keep := range belowNought {
		for _, e := range goodEngines(t) {
			checkDone(t, "below 0", e, evCrash(keep), impl.EngForm)
		}
	}
	// What a restart told ahead of its end is not sure: a crash of one that is Down loses it.
	stopped := checkDone(t, "stopped", checkCrash(t, threeEngine(t).e, 0), evRestart(8), impl.EngBusy)
	for keep, recs := range map[int]int{0: 6, 1: 7, 3: 9, 9: 9} {
		if down := checkDone(t, "stopped", stopped, evCrash(keep), impl.EngGood); len(down.Log.Recs) != recs || !down.Down {
			t.Errorf("keep %d: %d records", keep, len(down.Log.Recs))
		}
	}
	checkDone(t, "a full log", longEngine(impl.MaxRecs, 3), evCrash(0), impl.EngGood)
}

func TestARestartAsAnEvent(t *testing.T) {
	down := checkCrash(t, threeEngine(t).e, 0)
	up := checkUp(t, down, allSteps)
	for limit := range 15 {
		code := impl.EngBusy
		if limit >= 11 {
			code = impl.EngGood
		}
		out := checkDone(t, "down", down, evRestart(limit), code)
		if out.Down != (limit < 11) || out.Down && len(out.Log.Recs) != 6+max(0, limit-5) || !out.Down && !sameEngines(out, up) {
			t.Errorf("limit %d: %+v", limit, brief(out))
		}
		if !out.Down {
			checkDone(t, "up already", out, evRestart(limit), impl.EngForm)
			continue
		}
		again := checkDone(t, "stopped before", out, evRestart(allSteps), impl.EngGood)
		if !sameLogs(again.Log, up.Log) {
			t.Errorf("limit %d, again: %+v", limit, brief(again))
		}
		if fewer := checkDone(t, "stopped before", out, evRestart(0), impl.EngBusy); len(fewer.Log.Recs) != len(out.Log.Recs) {
			t.Errorf("limit %d, then none: %+v", limit, brief(fewer))
		}
	}
	for _, limit := range []int{0, 1, 3, allSteps, math.MaxInt64} {
		checkDone(t, "nothing in it", impl.EngineNew(), evRestart(limit), impl.EngForm)
		checkDone(t, "not down", busyEngine(t), evRestart(limit), impl.EngForm)
		checkDone(t, "nothing to be done", impl.Engine{Next: 9, Down: true}, evRestart(limit), impl.EngGood)
	}
	for _, limit := range belowNought {
		for _, e := range append(goodEngines(t), down) {
			checkDone(t, "below 0", e, evRestart(limit), impl.EngForm)
		}
	}
	checkDone(t, "no room for its records", longDown(impl.MaxRecs-1, 3), evRestart(allSteps), impl.EngBusy)
	checkDone(t, "room for its records", longDown(impl.MaxRecs-4, 3), evRestart(allSteps), impl.EngGood)
}

func TestEventsOfNoPageAndNoObject(t *testing.T) {
	busy, free := busyEngine(t), fullEngine(t).then(begin()).e
	for _, no := range wrongNos {
		checkDone(t, "no page", busy, evFlush(no), impl.EngForm)
	}
	for no := range impl.Pages {
		checkDone(t, "a page", busy, evFlush(no), impl.EngGood)
	}
	for _, oid := range wrongOids {
		for _, e := range []impl.Engine{busy, free} {
			checkDone(t, "no object", e, evGet(oid), impl.EngForm)
			checkDone(t, "no object", e, evSet(0, oid, numbered(1)), impl.EngForm)
			checkDone(t, "no root", e, evCollect(oid), impl.EngForm)
		}
	}
	for oid := 1; oid <= impl.MaxOid; oid++ {
		checkDone(t, "an object", free, evGet(oid), impl.EngGood)
		checkDone(t, "an object", free, evSet(0, oid, numbered(1)), impl.EngGood)
		out := checkDone(t, "a root", free, evCollect(oid), impl.EngGood)
		if left := plainReach(viewOf(free), oid); len(left) != impl.MaxOid+1-oid || !slices.Equal(plainReach(viewOf(out), oid), left) || len(plainGarbage(viewOf(out), oid)) != 0 {
			t.Errorf("from %d: %v", oid, viewText(viewOf(out)))
		}
		checkDone(t, "a root, and somebody holds something", busy, evCollect(oid), impl.EngBusy)
	}
	for _, s := range wrongSlots() {
		checkDone(t, "no slot", free, evSet(0, 5, s), impl.EngForm)
	}
	for _, s := range sampleSlots() {
		out := checkDone(t, "a slot", free, evSet(0, 5, s), impl.EngGood)
		if !sameSlot(viewOf(out)[5], s) {
			t.Errorf("object 5 is %v, was set to %v", viewOf(out)[5], s)
		}
	}
}

func TestEventsBeginAsManyAsMayBe(t *testing.T) {
	checkDone(t, "six are under way", sixEngine(t), evBegin(), impl.EngFull)
	free := sixEngine(t)
	free.Holds = nil
	checkDone(t, "six are under way", free, evCollect(1), impl.EngFull)
	checkDone(t, "the last transaction", impl.Engine{Next: impl.MaxTx}, evBegin(), impl.EngGood)
	checkDone(t, "the last transaction", impl.Engine{Next: impl.MaxTx}, evCollect(1), impl.EngGood)
	checkDone(t, "none is left", impl.Engine{Next: impl.MaxTx + 1}, evBegin(), impl.EngFull)
	checkDone(t, "none is left", impl.Engine{Next: impl.MaxTx + 1}, evCollect(1), impl.EngFull)
	// What crashes and comes up again begins anew behind the log's last one.
	up := checkPlay(t, impl.Engine{Next: impl.MaxTx + 1}, []impl.Event{evCrash(0), evRestart(0), evBegin()})
	if !slices.Equal(up.Txs, []impl.Live{{Tx: 1}}) {
		t.Errorf("%+v", up)
	}
}

func TestEventsAtTheEdgeOfTheLog(t *testing.T) {
	for count, full := range map[int]bool{impl.MaxRecs - 201: false, impl.MaxRecs - 200: false, impl.MaxRecs - 199: true, impl.MaxRecs: true} {
		e := longEngine(count, 3)
		code := func(roomy int) int {
			if full {
				return impl.EngFull
			}
			return roomy
		}
		for _, ev := range []impl.Event{evBegin(), evSet(0, 5, numbered(1)), evSet(1, 9, numbered(1)), evCommit(0), evCommit(1), evAbort(0), evAbort(1), evFlush(1), evCheck(), evGet(5)} {
			checkDone(t, fmt.Sprint(count, " records"), e, ev, code(impl.EngGood))
		}
		checkDone(t, fmt.Sprint(count, " records, held"), e, evSet(1, 5, numbered(1)), code(impl.EngBusy))
		checkDone(t, fmt.Sprint(count, " records, held"), e, evCollect(5), code(impl.EngBusy))
		checkDone(t, fmt.Sprint(count, " records"), longFull(count), evCollect(16), code(impl.EngGood))
		for _, ev := range []impl.Event{evSet(2, 5, numbered(1)), evCommit(2), evAbort(-1)} {
			checkDone(t, fmt.Sprint(count, " records, no K-th"), e, ev, impl.EngNone)
		}
		for _, ev := range []impl.Event{evSet(0, 0, numbered(1)), evFlush(8), evGet(32), evCollect(0)} {
			checkDone(t, fmt.Sprint(count, " records, no such thing"), e, ev, impl.EngForm)
		}
	}
}

// onlyNamed is an event without what its kind does not name.
func onlyNamed(ev impl.Event) impl.Event {
	switch ev.Kind {
	case impl.EvSet:
		return evSet(ev.K, ev.Oid, ev.S)
	case impl.EvCommit, impl.EvAbort:
		return impl.Event{Kind: ev.Kind, K: ev.K}
	case impl.EvFlush, impl.EvCrash, impl.EvRestart:
		return impl.Event{Kind: ev.Kind, N: ev.N}
	case impl.EvGet, impl.EvCollect:
		return impl.Event{Kind: ev.Kind, Oid: ev.Oid}
	}
	return impl.Event{Kind: ev.Kind}
}

// What an event's kind does not name is not looked at, whatever stands there.
func TestWhatAKindDoesNotName(t *testing.T) {
	free := fullEngine(t).then(begin(), set(2, 9, impl.Slot{}), commit(2), begin()).e
	numbers := []int{0, 1, 5, -1, 99, math.MaxInt64, math.MinInt64}
	slots := []impl.Slot{{}, numbered(1), wrongSlots()[0], wrongSlots()[8]}
	good := map[int]int{}
	for _, e := range []impl.Engine{free, busyEngine(t), downEngine(t), impl.EngineNew()} {
		for _, kind := range kinds {
			for i := range numbers {
				for j := range len(numbers) * len(slots) {
					ev := impl.Event{Kind: kind, K: numbers[i], Oid: numbers[j%len(numbers)], S: slots[j%len(slots)], N: numbers[(i+2*j)%len(numbers)]}
					if got := checkDo(t, e, ev); !sameAnswers(got, do(e, onlyNamed(ev))) {
						t.Errorf("%+v is not done as %+v: code %d", ev, onlyNamed(ev), got.code)
					} else if got.code == impl.EngGood {
						good[kind]++
					}
				}
			}
		}
	}
	for _, kind := range kinds {
		if good[kind] < 3 {
			t.Errorf("kind %d: %d times good only", kind, good[kind])
		}
	}
}

func TestEventsOfWhatIsNoEngine(t *testing.T) {
	for _, w := range wrongEngines(t) {
		for _, kind := range kinds {
			for _, k := range []int{0, len(w.e.Txs) - 1, len(w.e.Txs), -1} {
				for _, n := range []int{1, -1} {
					ev := impl.Event{Kind: kind, K: k, Oid: 5, S: numbered(1), N: n}
					code := impl.EngForm
					if ofKth(kind) && (k < 0 || k >= len(w.e.Txs)) {
						code = impl.EngNone
					}
					if a := do(w.e, ev); a.code != code || !sameEngines(a.e, w.e) {
						t.Fatalf("%s: %+v: code %d, want %d: %+v", w.why, ev, a.code, code, brief(a.e))
					}
				}
			}
		}
	}
	for _, kind := range kinds {
		code := impl.EngForm
		if ofKth(kind) {
			code = impl.EngNone
		}
		checkDone(t, "the zero one", impl.Engine{}, impl.Event{Kind: kind, Oid: 5}, code)
	}
}

func TestEventsOfOneThatIsDown(t *testing.T) {
	for _, e := range goodEngines(t) {
		if !e.Down {
			continue
		}
		for _, ev := range []impl.Event{evBegin(), evFlush(1), evCheck(), evGet(5), evCollect(5), evFlush(-1), evGet(0), evCollect(0), {}} {
			checkDone(t, "down", e, ev, impl.EngForm)
		}
		for _, ev := range []impl.Event{evSet(0, 5, numbered(1)), evCommit(0), evAbort(0), evSet(-1, 0, wrongSlots()[0])} {
			checkDone(t, "down, and nobody is under way", e, ev, impl.EngNone)
		}
		checkDone(t, "down", e, evCrash(3), impl.EngGood)
		checkDone(t, "down", e, evRestart(allSteps), impl.EngGood)
	}
}

// Where several reasons apply: no K-th counts ahead of all that a call asks, for there is none; else it is as in the chapter of the call.
func TestEventsForSeveralReasons(t *testing.T) {
	busy, six, long := busyEngine(t), sixEngine(t), longEngine(impl.MaxRecs-199, 3)
	down, wrong := downEngine(t), busy
	wrong.Next = 3
	no := wrongSlots()[0]
	for i, x := range []struct {
		e    impl.Engine
		ev   impl.Event
		code int
	}{
		{busy, evSet(4, 5, no), impl.EngNone},
		{busy, evSet(4, 0, numbered(1)), impl.EngNone},
		{busy, evSet(-1, 32, no), impl.EngNone},
		{busy, evSet(4, busy.Holds[0].Oid, numbered(1)), impl.EngNone},
		{long, evSet(2, 0, no), impl.EngNone},
		{long, evCommit(2), impl.EngNone},
		{long, evAbort(2), impl.EngNone},
		{down, evSet(0, 0, no), impl.EngNone},
		{down, evCommit(0), impl.EngNone},
		{wrong, evSet(4, 0, no), impl.EngNone},
		{wrong, evAbort(-1), impl.EngNone},
		{wrong, evSet(0, 5, numbered(1)), impl.EngForm},
		{busy, evSet(1, busy.Holds[0].Oid, no), impl.EngForm},
		{busy, evSet(0, 0, no), impl.EngForm},
		{long, evSet(1, 5, no), impl.EngForm},
		{long, evSet(1, 5, numbered(1)), impl.EngFull},
		{long, evFlush(8), impl.EngForm},
		{long, evGet(0), impl.EngForm},
		{long, evCollect(0), impl.EngForm},
		{long, evCollect(5), impl.EngFull},
		{long, evRestart(1), impl.EngForm},
		{six, evCollect(0), impl.EngForm},
		{six, evCollect(5), impl.EngFull},
		{busy, evCollect(32), impl.EngForm},
		{wrong, evCrash(-1), impl.EngForm},
		{wrong, evRestart(-1), impl.EngForm},
		{busy, evRestart(-1), impl.EngForm},
		{down, evRestart(-1), impl.EngForm},
		{wrong, impl.Event{Kind: 11, K: -1}, impl.EngForm},
		{impl.EngineNew(), impl.Event{Kind: 0, K: 3}, impl.EngForm},
		{down, impl.Event{Kind: -1, K: 3}, impl.EngForm},
	} {
		checkDone(t, fmt.Sprint("case ", i), x.e, x.ev, x.code)
	}
}

func TestPlayTakesTheFirstOfThem(t *testing.T) {
	begun := engineOf(t, begin()).e
	for _, count := range []int{0, 1, 2, impl.MaxEvents - 1, impl.MaxEvents, impl.MaxEvents + 1, impl.MaxEvents + 2, 3 * impl.MaxEvents} {
		checks := slices.Repeat([]impl.Event{evCheck()}, count)
		if e := checkPlay(t, impl.EngineNew(), checks); len(e.Log.Recs) != min(count, impl.MaxEvents) {
			t.Errorf("%d checks made %d records", count, len(e.Log.Recs))
		}
		// What is refused counts as well as any other.
		refused := slices.Concat(slices.Repeat([]impl.Event{{}, evCommit(1)}, count/2), []impl.Event{evSet(0, 5, numbered(1)), evSet(0, 6, numbered(2))})
		left := max(0, min(2, impl.MaxEvents-count/2*2))
		if e := checkPlay(t, begun, refused); len(e.Log.Recs) != left {
			t.Errorf("behind %d that are refused: %d records", count/2*2, len(e.Log.Recs))
		}
		// The one behind them is not done, whatever it is.
		for _, last := range []impl.Event{evCommit(0), evCrash(0), evBegin()} {
			if e := checkPlay(t, begun, append(checks[:count:count], last)); (count < impl.MaxEvents) == (!e.Down && len(e.Txs) == 1) {
				t.Errorf("behind %d: %+v: %+v", count, last, brief(e))
			}
		}
	}
}

func TestPlayOfNoEvents(t *testing.T) {
	room := []impl.Event{evCheck(), evBegin()}
	for _, w := range wrongEngines(t) {
		for _, list := range [][]impl.Event{nil, {}, room[:0]} {
			if got := impl.Play(w.e, list); !sameEngines(got, w.e) {
				t.Fatalf("%s: %+v", w.why, brief(got))
			}
		}
	}
	for _, e := range goodEngines(t) {
		for _, list := range [][]impl.Event{nil, {}, room[:0]} {
			if got := checkPlay(t, e, list); !sameEngines(got, e) {
				t.Fatalf("%+v", brief(got))
			}
		}
	}
	if e := checkPlay(t, impl.EngineNew(), room[:1]); len(e.Txs) != 0 || len(e.Log.Recs) != 1 {
		t.Errorf("what lies behind the list is done: %+v", e)
	}
}

// Of what is no engine nothing comes, whatever befalls it.
func TestPlayOfWhatIsNoEngine(t *testing.T) {
	list := []impl.Event{evBegin(), evSet(0, 5, numbered(1)), evCommit(0), evFlush(1), evCheck(), evGet(5), evAbort(0), evCollect(5), evCrash(0), evRestart(allSteps), evBegin(), {}}
	for _, w := range wrongEngines(t) {
		if got := impl.Play(w.e, list); !sameEngines(got, w.e) {
			t.Fatalf("%s: %+v", w.why, brief(got))
		}
	}
	for _, e := range goodEngines(t) {
		checkPlay(t, e, list)
	}
}

// anyEvent is an event of something near what is right.
func anyEvent(r *turns) impl.Event {
	slots := append(sampleSlots(), wrongSlots()[r.below(len(wrongSlots()))])
	return impl.Event{Kind: []int{r.below(12), impl.EvSet}[r.below(5)/4], K: r.below(8) - 1, Oid: r.below(34) - 1, S: slots[r.below(len(slots))], N: r.below(10) - 1}
}

// worldEngines are right, up and Down, with long logs among them, and such as stand in the midst of a restart.
func worldEngines(t *testing.T) []impl.Engine {
	out := append(keepEngines(t), sixEngine(t), longEngine(900, 3), longDown(300, 4))
	down := checkCrash(t, threeEngine(t).e, 0)
	for limit := range 12 {
		e, _ := impl.Restart(down, limit)
		out = append(out, e)
	}
	return out
}

// What an event does to any engine, whether it came of events or not, is as the chapter says; and a few of them as one play.
func TestEventsOfManyEngines(t *testing.T) {
	r := &turns{14}
	type kind struct{ kind, code int }
	found := map[kind]int{}
	engines := worldEngines(t)
	for range 12000 {
		e := deepEngine(engines[r.below(len(engines))])
		for range r.below(3) {
			mutate(r, &e)
		}
		list := []impl.Event{anyEvent(r), anyEvent(r), anyEvent(r)}
		found[kind{list[0].Kind, checkDo(t, e, list[0]).code}]++
		if r.below(4) == 0 {
			checkPlay(t, e, list)
		}
	}
	for k, codes := range map[int][]int{
		impl.EvBegin: {0, 1, 4}, impl.EvSet: {0, 1, 2, 3}, impl.EvCommit: {0, 1, 2}, impl.EvAbort: {0, 1, 2}, impl.EvFlush: {0, 1}, impl.EvCheck: {0, 1},
		impl.EvGet: {0, 1}, impl.EvCrash: {0, 1}, impl.EvRestart: {0, 1, 3}, impl.EvCollect: {0, 1, 3, 4}, 0: {1}, 11: {1},
	} {
		for _, code := range codes {
			if found[kind{k, code}] < 5 {
				t.Errorf("kind %d, code %d: %d times only", k, code, found[kind{k, code}])
			}
		}
	}
}

// Each way of a few events, from an engine where two are under way and one object is there.
func TestEventsOfAllShortWays(t *testing.T) {
	events := []impl.Event{
		evBegin(), evSet(0, 5, numbered(1)), evSet(1, 5, impl.Slot{}), evSet(1, 21, slotOf(2, nil, []int{1})), evCommit(0), evAbort(1), evFlush(1), evCheck(),
		evCrash(0), evCrash(1), evRestart(1), evRestart(allSteps), evCollect(1), {Kind: 11},
	}
	start := committedWith(t, viewFrom("1:5")).then(begin(), begin(), set(3, 9, numbered(7))).e
	var walk func(e impl.Engine, list []impl.Event)
	walk = func(e impl.Engine, list []impl.Event) {
		if got := impl.Play(start, list); !sameEngines(got, e) {
			t.Fatalf("%+v: one play makes %+v, one by one %+v", list, brief(got), brief(e))
		}
		for _, ev := range events {
			if len(list) < 4 {
				walk(checkDo(t, e, ev).e, append(slices.Clip(list), ev))
			}
		}
	}
	walk(start, nil)
}

// world goes on from an engine by events as chance has them, and knows what must be there, told without pages, logs and pools.
type world struct {
	t     *testing.T
	r     *turns
	e     impl.Engine
	h     truth
	found map[string]int
}

// next is an event that is mostly taken.
func (w *world) next() impl.Event {
	r := w.r
	if w.e.Down && r.below(8) > 0 {
		return []impl.Event{evRestart(r.below(8)), evRestart(r.below(60)), evCrash(r.below(5))}[r.below(3)]
	}
	k, oid := 0, 1+r.below(impl.MaxOid)
	if len(w.e.Txs) > 0 {
		k = r.below(len(w.e.Txs))
	}
	switch n := r.below(100); {
	case n < 14:
		return evBegin()
	case n < 54:
		return evSet(k, oid, impl.Slot{Has: true, O: chanceObject(r)})
	case n < 58:
		return evSet(k, oid, impl.Slot{})
	case n < 68:
		return evCommit(k)
	case n < 73:
		return evAbort(k)
	case n < 78:
		return evFlush(r.below(impl.Pages))
	case n < 80:
		return evCheck()
	case n < 87:
		return evGet(oid)
	case n < 93:
		return evCollect(oid)
	case n < 96:
		return evCrash(r.below(6))
	}
	return anyEvent(r)
}

// note tells the truth what an event that was good has done to the engine that was.
func (w *world) note(was impl.Engine, ev impl.Event) {
	switch ev.Kind {
	case impl.EvSet:
		w.h.set(was.Txs[ev.K].Tx, ev.Oid, ev.S)
	case impl.EvCommit, impl.EvAbort:
		w.h.end(was.Txs[ev.K].Tx, ev.Kind == impl.EvCommit)
	case impl.EvCrash:
		w.h.fall()
	case impl.EvCollect:
		for _, oid := range plainGarbage(w.h.view(), ev.Oid) {
			w.h.set(was.Next, oid, impl.Slot{})
		}
		w.h.end(was.Next, true)
	}
}

func (w *world) step() impl.Event {
	w.t.Helper()
	was, ev := w.e, w.next()
	a := checkDo(w.t, was, ev)
	w.found[fmt.Sprint(ev.Kind, " ", a.code)]++
	if a.code == impl.EngGood {
		w.note(was, ev)
	}
	w.e = a.e
	w.check(ev, a.code)
	return ev
}

// check asks that objects are what they must be; of one that is Down, that the log tells them.
func (w *world) check(ev impl.Event, code int) {
	w.t.Helper()
	switch {
	case !impl.EngineOk(w.e):
		w.t.Fatalf("%+v leaves what is no engine: %+v", ev, brief(w.e))
	case w.e.Down:
		if !sameViews(impl.Committed(w.e.Log), w.h.view()) {
			w.t.Fatalf("%+v: committed is %v, was %v", ev, impl.Committed(w.e.Log), w.h.view())
		}
		return
	case ev.Kind == impl.EvRestart && code == impl.EngGood:
		checkRisen(w.t, w.e, w.h.view())
	}
	checkTruth(w.t, w.e, w.h)
	checkLogAhead(w.t, w.e)
	checkCommitted(w.t, w.e)
}

// The promise, of EngineNew, by many events: one by one they are as one play, and as two plays, wherever the second begins.
func TestEventsOneByOneAreAsOnePlay(t *testing.T) {
	found := map[string]int{}
	for walk := range 30 {
		w := &world{t, &turns{4000 + 271*walk}, impl.EngineNew(), newTruth(), found}
		var list []impl.Event
		var were []impl.Engine
		for range impl.MaxEvents {
			were = append(were, w.e)
			list = append(list, w.step())
			if w.r.below(20) > 0 {
				continue
			}
			from := w.r.below(len(list))
			if got := impl.Play(were[from], list[from:]); !sameEngines(got, w.e) {
				t.Fatalf("events %d to %d as one play: %+v, one by one %+v", from, len(list), brief(got), brief(w.e))
			}
		}
		whole := checkPlay(t, impl.EngineNew(), list)
		if !sameEngines(whole, w.e) {
			t.Fatalf("as one play: %+v, one by one %+v", brief(whole), brief(w.e))
		}
		if longer := checkPlay(t, impl.EngineNew(), append(list, evCheck(), evCrash(0), evBegin())); !sameEngines(longer, whole) {
			t.Fatalf("more than %d are done: %+v", impl.MaxEvents, brief(longer))
		}
		cut := w.r.below(len(list))
		if got := impl.Play(impl.Play(impl.EngineNew(), list[:cut]), list[cut:]); !sameEngines(got, whole) {
			t.Fatalf("as two plays, the second one from %d on: %+v", cut, brief(got))
		}
	}
	for what, least := range map[string]int{"1 0": 200, "2 0": 500, "2 2": 20, "2 3": 20, "3 0": 100, "4 0": 50, "5 0": 50, "6 0": 20, "7 0": 50, "8 0": 100, "9 0": 100, "9 3": 100, "9 1": 5, "10 0": 20, "10 3": 20} {
		if found[what] < least {
			t.Errorf("%s: too few: %v", what, found)
		}
	}
}

// worldRooms are engines with something foreign in the room behind each list: up, with a gap, Down, and such as are no engine.
func worldRooms() ([]impl.Engine, func() bool) {
	engines, kept := keepRooms()
	down, downKept := downRoom()
	wrongDown := down
	wrongDown.Next = 0
	return append(engines, down, wrongDown), func() bool { return kept() && downKept() }
}

// roomEvents are events of each kind, good ones and such as are refused, all with this slot.
func roomEvents(s impl.Slot) []impl.Event {
	var out []impl.Event
	for _, kind := range append(kinds, 0, 11) {
		for n := -1; n < 34; n++ {
			out = append(out, impl.Event{Kind: kind, K: n % 3, Oid: n, S: s, N: n})
		}
	}
	return append(out, evSet(0, 5, impl.Slot{O: s.O}))
}

func TestWorldArgumentsAreLeft(t *testing.T) {
	engines, kept := worldRooms()
	s, rooms := spareSlot()
	codes := map[int]int{}
	for _, e := range engines {
		for _, ev := range roomEvents(s) {
			list := []impl.Event{ev, evBegin(), evSet(0, 3, s), ev, evCheck(), evCrash(1), evRestart(9), {Kind: 77}}
			a, played := do(e, ev), impl.Play(e, list[:7])
			codes[a.code]++
			if !kept() || !roomsKept(rooms) || list[7].Kind != 77 {
				t.Fatalf("%+v: an argument was written into", ev)
			}
			scribbleEngine(a.e)
			scribbleEngine(played)
			if !kept() || !roomsKept(rooms) {
				t.Fatalf("%+v: an argument is shared", ev)
			}
		}
		scribbleEngine(impl.Play(e, nil))
		if !kept() {
			t.Fatal("no events: an argument is shared")
		}
	}
	for code := range 5 {
		if codes[code] == 0 {
			t.Errorf("no code %d: %v", code, codes)
		}
	}
}

func TestWorldAnswersShareNothing(t *testing.T) {
	list := []int{1, 2, 3}
	s := slotOf(7, list, list)
	up, down := sharedEngine(t, list), sharedDown(list)
	free, wrong, wrongDown := up, up, down
	free.Holds, wrong.Next, wrongDown.Next = nil, 0, 0
	checkShares := func(what string, answer func() impl.Engine) {
		sched := func() impl.Sched { return impl.Sched{E: answer()} }
		checkOwnParts(t, what, sched(), sched)
	}
	for n, e := range []impl.Engine{up, free, wrong, down, wrongDown} {
		for _, ev := range []impl.Event{
			{}, evBegin(), evSet(0, 30, s), evSet(0, 5, slotOf(0, list, list)), evSet(9, 5, s), evCommit(0), evCommit(9), evAbort(0), evFlush(5), evFlush(8), evCheck(), evGet(5), evGet(0),
			evCrash(0), evCrash(9), evCrash(-1), evRestart(0), evRestart(12), evRestart(allSteps), evRestart(-1), evCollect(1), evCollect(30), evCollect(0),
		} {
			checkShares(fmt.Sprintf("engine %d, %+v", n, ev), func() impl.Engine { return do(e, ev).e })
		}
		for i, list := range [][]impl.Event{nil, {evBegin(), evSet(0, 9, s), evSet(0, 13, s), evSet(0, 9, s), evCheck(), evGet(1)}, {evCrash(3), evRestart(9), evRestart(allSteps), evBegin(), evSet(0, 30, s), evSet(0, 29, s)}, {{}, evGet(0)}} {
			checkShares(fmt.Sprintf("engine %d, play %d", n, i), func() impl.Engine { return impl.Play(e, list) })
		}
	}
	if !slices.Equal(list, []int{1, 2, 3}) {
		t.Errorf("an answer shares memory with an argument: %v", list)
	}
}

func TestWorldCallsKeepNothing(t *testing.T) {
	busy, down := busyEngine(t), checkCrash(t, threeEngine(t).e, 1)
	events := roomEvents(numbered(3))
	answers := func() []doAnswer {
		out := []doAnswer{{impl.Play(busy, events), 0}, {impl.Play(down, events), 0}}
		for _, ev := range events {
			out = append(out, do(busy, ev), do(down, ev))
		}
		return out
	}
	first := answers()
	for _, w := range wrongEngines(t)[:100] {
		for _, ev := range events[:40] {
			scribbleEngine(do(w.e, ev).e)
		}
		scribbleEngine(impl.Play(w.e, events))
	}
	for range 2 {
		for i, a := range answers() {
			if !sameAnswers(a, first[i]) {
				t.Errorf("answer %d: what was called ahead is seen: code %d, %+v", i, a.code, brief(a.e))
			}
			scribbleEngine(a.e)
		}
	}
}
