package tests

import (
	"fmt"
	"slices"
	"testing"

	"loop.example/g00181/impl"
)

// checkView asks of each object that it is told as in its seat, or else as on the disk.
func checkView(t *testing.T, e impl.Engine) []impl.Slot {
	t.Helper()
	was := deepEngine(e)
	got := impl.View(e)
	if len(got) != impl.MaxOid+1 || !sameViews(got, viewOf(e)) {
		t.Fatalf("View of %+v: %v", brief(e), got)
	}
	if !sameEngines(e, was) {
		t.Fatalf("View made %+v of %+v", brief(e), brief(was))
	}
	return got
}

func TestViewOfManyEngines(t *testing.T) {
	r := &turns{3}
	for _, e := range goodEngines(t) {
		checkView(t, e)
	}
	h, e := newTruth(), impl.EngineNew()
	for range 1500 {
		c := nextCall(r, e)
		if a := callEngine(e, c); a.code == impl.EngGood {
			e = a.e
			h.note(c)
		}
		for oid, got := range checkView(t, e) {
			if !sameSlot(got, h.now[oid]) {
				t.Fatalf("object %d is %v, must be %v", oid, got, h.now[oid])
			}
		}
	}
}

func TestViewForms(t *testing.T) {
	e := engineOf(t, begin(), set(1, 5, numbered(1)), flush(1), set(1, 5, numbered(2)), set(1, 31, numbered(3))).e
	view := checkView(t, e)
	if !sameSlot(view[5], numbered(2)) || !sameSlot(view[31], numbered(3)) || view[0].Has || view[6].Has {
		t.Errorf("what is changed, but not written: %v", view)
	}
	e.Pool.Seats = nil
	if view = checkView(t, e); !sameSlot(view[5], numbered(1)) || view[31].Has {
		t.Errorf("what is written: %v", view)
	}
	// That of 0 has nothing, whatever stands in the first page.
	e.Disk[0].Slots[0] = numbered(9)
	e.Pool.Seats = []impl.Seat{{No: 0, P: e.Disk[0], Dirty: true}}
	if view = checkView(t, e); view[0].Has || len(view[0].O.Ints) != 0 {
		t.Errorf("object 0: %v", view[0])
	}
}

// The chapter names no engine that View refuses.
func TestViewOfWhatIsNoEngine(t *testing.T) {
	for _, w := range wrongEngines(t) {
		checkView(t, w.e)
	}
}

func TestViewSharesNothing(t *testing.T) {
	e, kept := engineRoom()
	for range 2 {
		for _, s := range impl.View(e) {
			scribble(s.O.Ints)
			scribble(s.O.Refs)
		}
		if !kept() {
			t.Fatal("an argument is shared")
		}
	}
	list := []int{1, 2, 3}
	slot := slotOf(7, list, list)
	m := engineOf(t, begin(), set(1, 1, slot), set(1, 2, slot))
	m.e.Disk[7].Slots[1] = slot
	m.e.Disk[7].Slots[2] = slot
	want := impl.View(m.e)
	for oid := range want {
		got := impl.View(m.e)
		scribble(got[oid].O.Ints)
		if len(got[oid].O.Refs) > 0 && got[oid].O.Refs[0] != 1 {
			t.Errorf("object %d: its lists share memory", oid)
		}
		for other := range got {
			if other != oid && !sameSlot(got[other], want[other]) {
				t.Errorf("object %d changed with object %d", other, oid)
			}
		}
	}
	if list[0] != 1 {
		t.Errorf("an answer shares memory with an argument: %v", list)
	}
}

// keepAnswer is what Insert and Collect answer: an engine, an Oid or how many, and a code.
type keepAnswer struct {
	e    impl.Engine
	n    int
	code int
}

func insert(e impl.Engine, tx int, o impl.Obj) keepAnswer {
	out, oid, code := impl.Insert(e, tx, o)
	return keepAnswer{out, oid, code}
}

func collect(e impl.Engine, root int) keepAnswer {
	out, gone, code := impl.Collect(e, root)
	return keepAnswer{out, gone, code}
}

// What follows, to plainUnheld, is the chapter once more, by other means: what the calls are held against.

// plainFree goes from the last Oid down; 0, where none is free for the transaction.
func plainFree(e impl.Engine, tx int) int {
	free := 0
	for oid := 31; oid > 0; oid-- {
		others := slices.ContainsFunc(e.Holds, func(h impl.Hold) bool { return h.Oid == oid && h.Tx != tx })
		if !plainLook(e, oid).Has && !others {
			free = oid
		}
	}
	return free
}

func plainInsert(e impl.Engine, tx int, o impl.Obj) keepAnswer {
	s, oid := impl.Slot{Has: true, O: o}, plainFree(e, tx)
	switch {
	case !plainSlotOk(s):
		return keepAnswer{e, 0, 1}
	case oid == 0:
		return keepAnswer{e, 0, 4}
	}
	a := plainEngine(e, set(tx, oid, s))
	if a.code != 0 {
		return keepAnswer{e, 0, a.code}
	}
	return keepAnswer{a.e, oid, 0}
}

func plainCollect(e impl.Engine, root int) keepAnswer {
	a := plainEngine(e, begin())
	switch {
	case root < 1 || root > 31:
		return keepAnswer{e, 0, 1}
	case a.code != 0:
		return keepAnswer{e, 0, a.code}
	case len(e.Holds) > 0:
		return keepAnswer{e, 0, 3}
	}
	gone := plainGarbage(viewOf(e), root)
	for _, oid := range gone {
		a.e = plainSet(a.e, a.tx, oid, impl.Slot{})
	}
	return keepAnswer{plainCommit(a.e, a.tx), len(gone), 0}
}

// plainUnheld goes back over the log, so that of each holder the first record is seen last.
func plainUnheld(e impl.Engine) []impl.Slot {
	out := viewOf(e)
	for _, r := range slices.Backward(e.Log.Recs) {
		at := plainHold(e, r.Oid)
		if r.Kind == 1 && r.Oid >= 1 && r.Oid <= 31 && at >= 0 && e.Holds[at].Tx == r.Tx {
			out[r.Oid] = r.Before
		}
	}
	return out
}

func checkKeep(t *testing.T, what string, e impl.Engine, was impl.Engine, got keepAnswer, want keepAnswer) {
	t.Helper()
	if got.n != want.n || got.code != want.code {
		t.Fatalf("%s: %d, code %d, want %d, code %d: %+v", what, got.n, got.code, want.n, want.code, brief(was))
	}
	if !sameEngines(got.e, want.e) {
		t.Fatalf("%s, code %d: another engine:\n%+v\nwant:\n%+v", what, got.code, brief(got.e), brief(want.e))
	}
	if !sameEngines(e, was) {
		t.Fatalf("%s, code %d: its argument changed", what, got.code)
	}
}

// checkInsert holds an Insert against the plain doing of it; and of a good one it asks that nothing was there, that the object is, and that its transaction holds it.
func checkInsert(t *testing.T, e impl.Engine, tx int, o impl.Obj) keepAnswer {
	t.Helper()
	was, given := deepEngine(e), deepSlot(impl.Slot{Has: true, O: o})
	got := insert(e, tx, o)
	checkKeep(t, fmt.Sprintf("Insert of %v by %d", o, tx), e, was, got, plainInsert(was, tx, given.O))
	if !alike(o, given.O) {
		t.Fatalf("Insert made %v of %v", o, given.O)
	}
	if got.code != impl.EngGood {
		return got
	}
	view := viewOf(was)
	if view[got.n].Has {
		t.Fatalf("Insert put %v where %v was", o, view[got.n])
	}
	view[got.n] = given
	at := plainHold(got.e, got.n)
	if !sameViews(viewOf(got.e), view) || at < 0 || got.e.Holds[at].Tx != tx || !impl.EngineOk(got.e) {
		t.Fatalf("Insert of %v by %d as %d left %+v", o, tx, got.n, brief(got.e))
	}
	return got
}

// checkCollect holds a Collect against the plain doing of it; and of a good one it asks what the promise says.
func checkCollect(t *testing.T, e impl.Engine, root int) keepAnswer {
	t.Helper()
	was := deepEngine(e)
	got := collect(e, root)
	checkKeep(t, fmt.Sprintf("Collect from %d", root), e, was, got, plainCollect(was, root))
	if got.code != impl.EngGood {
		return got
	}
	want, gone := sweptView(viewOf(was), root)
	if !sameViews(viewOf(got.e), want) || got.n != gone {
		t.Fatalf("Collect from %d of %v left %v, told %d gone", root, viewOf(was), viewOf(got.e), got.n)
	}
	if !slices.Equal(got.e.Txs, was.Txs) || len(got.e.Holds) != 0 || got.e.Next != was.Next+1 || !impl.EngineOk(got.e) {
		t.Fatalf("Collect from %d left somebody under way: %+v", root, brief(got.e))
	}
	return got
}

// sweptView is what is left of a view once all that is not reached is gone, and how many are.
func sweptView(v []impl.Slot, root int) ([]impl.Slot, int) {
	out, gone := make([]impl.Slot, impl.MaxOid+1), 0
	reached := plainReach(v, root)
	for oid, s := range v {
		if slices.Contains(reached, oid) {
			out[oid] = s
		} else if s.Has {
			gone++
		}
	}
	return out, gone
}

func checkUnheld(t *testing.T, e impl.Engine) []impl.Slot {
	t.Helper()
	was := deepEngine(e)
	got := impl.Unheld(e)
	if want := plainUnheld(was); !sameViews(got, want) {
		t.Fatalf("Unheld: %v, want %v: %+v", got, want, brief(was))
	}
	if !sameEngines(e, was) {
		t.Fatalf("Unheld made %+v of %+v", brief(e), brief(was))
	}
	return got
}

// checkCommitted asks that Unheld is what the log tells as committed, of an engine that came of EngineNew.
func checkCommitted(t *testing.T, e impl.Engine) {
	t.Helper()
	got := checkUnheld(t, e)
	if !sameViews(got, plainCommitted(e.Log)) || !sameViews(got, impl.Committed(e.Log)) {
		t.Fatalf("Unheld is %v, committed is %v: %+v", got, plainCommitted(e.Log), brief(e))
	}
}

// checkOutlives asks that an engine where all is committed has the same objects behind a crash that keeps no more than it must, and a restart.
func checkOutlives(t *testing.T, e impl.Engine) {
	t.Helper()
	up := checkUp(t, checkCrash(t, e, 0), allSteps)
	if !sameViews(viewOf(up), viewOf(e)) {
		t.Fatalf("behind a crash there is %v, there was %v", viewOf(up), viewOf(e))
	}
	checkCommitted(t, up)
}

// object is one that tells its number, and refers to these.
func object(n int, refs ...int) impl.Obj { return impl.Obj{Kind: 1, Ints: []int{n}, Refs: refs} }

// committedWith commits these objects in an engine, all by its first transaction.
func committedWith(t *testing.T, v []impl.Slot) engMaker {
	t.Helper()
	m := engineOf(t, begin())
	for oid, s := range v {
		if s.Has {
			m = m.then(set(1, oid, s))
		}
	}
	return m.then(commit(1))
}

// fullEngine has an object for each Oid, each of which refers to the next one, all committed.
func fullEngine(t *testing.T) engMaker {
	t.Helper()
	return committedWith(t, chainOf(numbersUpTo(1, impl.MaxOid)))
}

func TestInsertOneAfterTheOther(t *testing.T) {
	e := engineOf(t, begin(), begin()).e
	for n := 1; n <= impl.MaxOid; n++ {
		a := checkInsert(t, e, 1+n%2, object(n, n))
		if a.n != n || a.code != impl.EngGood {
			t.Fatalf("object %d: %d, code %d", n, a.n, a.code)
		}
		e = a.e
	}
	for tx := 1; tx <= 2; tx++ {
		if a := checkInsert(t, e, tx, object(99)); a.n != 0 || a.code != impl.EngFull || !sameEngines(a.e, e) {
			t.Errorf("one more: %d, code %d", a.n, a.code)
		}
	}
	e = engMaker{t, e}.then(commit(1), commit(2)).e
	checkOutlives(t, e)
	for oid, s := range viewOf(e) {
		if oid > 0 && !alike(s.O, object(oid, oid)) {
			t.Errorf("object %d is %v", oid, s)
		}
	}
}

func TestInsertRecord(t *testing.T) {
	m := engineOf(t, begin(), begin(), set(1, 1, numbered(4)), set(2, 3, numbered(5)))
	a := checkInsert(t, m.e, 2, object(6, 31))
	want := append(slices.Clone(m.e.Log.Recs), impl.Rec{Lsn: 3, Tx: 2, Prev: 2, Kind: impl.RecSet, Oid: 2, After: impl.Slot{Has: true, O: object(6, 31)}})
	if a.n != 2 || a.code != impl.EngGood || !sameLogs(a.e.Log, impl.Log{Recs: want}) {
		t.Fatalf("%d, code %d: %+v", a.n, a.code, a.e.Log)
	}
	if !slices.Equal(a.e.Holds, []impl.Hold{{Tx: 1, Oid: 1}, {Tx: 2, Oid: 3}, {Tx: 2, Oid: 2}}) || a.e.Txs[1].Last != 3 || a.e.Next != 3 {
		t.Errorf("%+v", a.e)
	}
	byHand := m.then(set(2, 2, impl.Slot{Has: true, O: object(6, 31)})).e
	if !sameEngines(a.e, byHand) {
		t.Errorf("another engine than by Set: %+v, %+v", a.e, byHand)
	}
}

func TestInsertForms(t *testing.T) {
	one, none := numbered(1), impl.Slot{}
	for _, x := range []struct {
		why   string
		calls []engCall
		tx    int
		want  int
	}{
		{"nothing is there", nil, 1, 1},
		{"the first is there", []engCall{set(1, 1, one)}, 1, 2},
		{"what another one put is there for all", []engCall{set(2, 1, one), set(1, 2, one)}, 1, 3},
		{"what was committed is there", []engCall{set(2, 1, one), commit(2)}, 1, 2},
		{"what was undone is not", []engCall{set(2, 1, one), abort(2)}, 1, 1},
		{"a gap", []engCall{set(1, 1, one), set(1, 2, one), set(1, 4, one), set(1, 6, one)}, 1, 3},
		{"a gap behind a page", []engCall{set(1, 1, one), set(1, 2, one), set(1, 3, one), set(1, 5, one)}, 1, 4},
		{"nothing below the one that is there", []engCall{set(1, 31, one)}, 1, 1},
		{"set to nothing where nothing was, by this one", []engCall{set(1, 1, none)}, 1, 1},
		{"set to nothing where nothing was, by another", []engCall{set(2, 1, none)}, 1, 2},
		{"set to nothing by this one", []engCall{set(3, 1, one), commit(3), set(1, 1, none)}, 1, 1},
		{"set to nothing by another", []engCall{set(3, 1, one), commit(3), set(2, 1, none)}, 1, 2},
		{"set to nothing by another that is done", []engCall{set(3, 1, one), commit(3), set(2, 1, none), commit(2)}, 1, 1},
		{"set to nothing by another that has undone it", []engCall{set(3, 1, one), commit(3), set(2, 1, none), abort(2)}, 1, 2},
		{"some by another, some by this one", []engCall{set(2, 1, none), set(2, 2, none), set(1, 3, one), set(1, 4, none), set(2, 5, none)}, 1, 4},
		{"some by two others", []engCall{set(2, 1, none), set(3, 2, none), set(2, 4, none)}, 1, 3},
		{"the other one sees it otherwise", []engCall{set(2, 1, none), set(1, 2, none), set(1, 3, one)}, 2, 1},
		{"there on the disk alone", []engCall{set(1, 1, one), set(1, 2, one), set(1, 3, one), flush(0), get(5), get(9), get(13)}, 1, 4},
		{"there on the disk, but no longer in its seat", []engCall{set(1, 1, one), set(1, 2, one), flush(0), set(1, 2, none)}, 1, 2},
		{"there in its seat, but not yet on the disk", []engCall{set(1, 1, one), flush(0), set(1, 2, one)}, 1, 3},
	} {
		m := engineOf(t, begin(), begin(), begin()).then(x.calls...)
		if a := checkInsert(t, m.e, x.tx, object(7, 1)); a.n != x.want || a.code != impl.EngGood {
			t.Errorf("%s: %d, code %d, want %d", x.why, a.n, a.code, x.want)
		}
	}
}

func TestInsertWhereAllAreThere(t *testing.T) {
	m := fullEngine(t).then(begin(), begin())
	for _, tx := range []int{2, 3} {
		if a := checkInsert(t, m.e, tx, object(1)); a.n != 0 || a.code != impl.EngFull || !sameEngines(a.e, m.e) {
			t.Errorf("by %d: %d, code %d", tx, a.n, a.code)
		}
	}
	for oid := 1; oid <= impl.MaxOid; oid++ {
		gap := m.then(set(2, oid, impl.Slot{}))
		if a := checkInsert(t, gap.e, 2, object(1)); a.n != oid || a.code != impl.EngGood {
			t.Errorf("where %d is nothing, by its holder: %d, code %d", oid, a.n, a.code)
		}
		if a := checkInsert(t, gap.e, 3, object(1)); a.n != 0 || a.code != impl.EngFull {
			t.Errorf("where %d is nothing, by another: %d, code %d", oid, a.n, a.code)
		}
		if a := checkInsert(t, gap.then(commit(2)).e, 3, object(1)); a.n != oid || a.code != impl.EngGood {
			t.Errorf("where %d is nothing for good: %d, code %d", oid, a.n, a.code)
		}
		if a := checkInsert(t, gap.then(abort(2)).e, 3, object(1)); a.n != 0 || a.code != impl.EngFull {
			t.Errorf("where %d is there again: %d, code %d", oid, a.n, a.code)
		}
	}
}

// Who holds is told by Holds, whatever the log tells.
func TestInsertWhereAllAreHeld(t *testing.T) {
	e := impl.Engine{Next: 4, Txs: []impl.Live{{Tx: 1}, {Tx: 3}}}
	for oid := impl.MaxOid; oid > 0; oid-- {
		e.Holds = append(e.Holds, impl.Hold{Tx: 3, Oid: oid})
	}
	if a := checkInsert(t, e, 1, object(1)); a.n != 0 || a.code != impl.EngFull {
		t.Errorf("all held by another: %d, code %d", a.n, a.code)
	}
	if a := checkInsert(t, e, 3, object(1)); a.n != 1 || a.code != impl.EngGood {
		t.Errorf("all held by itself: %d, code %d", a.n, a.code)
	}
	for at := range e.Holds {
		some := deepEngine(e)
		some.Holds = slices.Delete(some.Holds, at, at+1)
		if a := checkInsert(t, some, 1, object(1)); a.n != e.Holds[at].Oid || a.code != impl.EngGood {
			t.Errorf("all but %d held by another: %d, code %d", e.Holds[at].Oid, a.n, a.code)
		}
	}
}

func TestInsertRefuses(t *testing.T) {
	busy, full := busyEngine(t), fullEngine(t).then(begin()).e
	long := longEngine(impl.MaxRecs-199, 3)
	refused := func(why string, e impl.Engine, tx int, o impl.Obj, code int) {
		t.Helper()
		if a := checkInsert(t, e, tx, o); a.n != 0 || a.code != code || !sameEngines(a.e, e) {
			t.Errorf("%s: %d, code %d, want code %d", why, a.n, a.code, code)
		}
	}
	for _, o := range wrongObjs() {
		refused("no object", busy, 3, o, impl.EngForm)
		refused("no object, nor under way", busy, 9, o, impl.EngForm)
		refused("no object, and all are there", full, 2, o, impl.EngForm)
		refused("no object, and the log is full", long, 2, o, impl.EngForm)
		refused("no object, and it is down", downEngine(t), 3, o, impl.EngForm)
	}
	for _, tx := range notUnderWay {
		refused("not under way", busy, tx, object(1), impl.EngNone)
		refused("not under way, where nothing is", impl.EngineNew(), tx, object(1), impl.EngNone)
		refused("not under way, and the log is full", long, tx, object(1), impl.EngFull)
		refused("not under way, and it is down", downEngine(t), tx, object(1), impl.EngForm)
	}
	// There is no Oid for which Set could refuse it.
	refused("not under way, and all are there", full, 9, object(1), impl.EngFull)
	refused("down, and all are there", checkCrash(t, engMaker{t, full}.then(flush(0), flush(1), flush(2), flush(3), flush(4), flush(5), flush(6), flush(7)).e, 0), 2, object(1), impl.EngFull)
}

func TestKeepRefusesWhatIsNoEngine(t *testing.T) {
	refused := func(why string, e impl.Engine) {
		t.Helper()
		for _, tx := range []int{0, 1, 3, 9} {
			for _, o := range []impl.Obj{object(1, 2), {}} {
				if a := insert(e, tx, o); a.n != 0 || a.code != impl.EngForm || !sameEngines(a.e, e) {
					t.Fatalf("%s: Insert by %d: %d, code %d", why, tx, a.n, a.code)
				}
			}
		}
		for _, root := range []int{-1, 0, 1, 5, impl.MaxOid, impl.MaxOid + 1} {
			if a := collect(e, root); a.n != 0 || a.code != impl.EngForm || !sameEngines(a.e, e) {
				t.Fatalf("%s: Collect from %d: %d, code %d", why, root, a.n, a.code)
			}
		}
	}
	for _, w := range wrongEngines(t) {
		refused(w.why, w.e)
	}
	for _, e := range goodEngines(t) {
		if e.Down {
			refused("down", e)
		}
	}
	refused("too many records", longEngine(impl.MaxRecs+1, 0))
}

func TestCollectForms(t *testing.T) {
	all := numbersUpTo(1, impl.MaxOid)
	for _, x := range []struct {
		why  string
		v    []impl.Slot
		root int
		left []int
		gone int
	}{
		{"nothing is there", viewFrom(""), 1, nil, 0},
		{"the root alone", viewFrom("7:"), 7, []int{7}, 0},
		{"the root is not there: nothing is reached", viewFrom("2:3 3:"), 1, nil, 2},
		{"the root is not there, but named", viewFrom("2:1,3 3:1"), 1, nil, 2},
		{"one is not named", viewFrom("1:2 2: 3:"), 1, []int{1, 2}, 1},
		{"it names the root", viewFrom("1:2 2: 3:1,2"), 1, []int{1, 2}, 1},
		{"two that name each other", viewFrom("1: 2:3 3:2"), 1, []int{1}, 2},
		{"a circle with the root", viewFrom("1:2 2:3 3:1 4:1"), 2, []int{1, 2, 3}, 1},
		{"one that names itself", viewFrom("1:1 2:2"), 1, []int{1}, 1},
		{"nothing is reached over what is not there", viewFrom("1:9 9: 8:9"), 8, []int{8, 9}, 1},
		{"what is named, but not there", viewFrom("1:9,0,2 2:9 3:9"), 1, []int{1, 2}, 1},
		{"the least root", viewFrom("1:31 31: 30:1"), 1, []int{1, 31}, 1},
		{"the greatest root", viewFrom("1:31 31: 30:1"), 31, []int{31}, 2},
		{"all are reached", chainOf(all), 1, all, 0},
		{"all but the root are gone", chainOf(all), 31, []int{31}, 30},
		{"the greatest root reaches all", chainOf(backward(all)), 31, all, 0},
		{"half of them", chainOf(all), 16, all[15:], 15},
	} {
		m := committedWith(t, x.v)
		a := checkCollect(t, m.e, x.root)
		var left []int
		for oid, s := range viewOf(a.e) {
			if s.Has {
				left = append(left, oid)
			}
		}
		if a.code != impl.EngGood || a.n != x.gone || !slices.Equal(left, x.left) {
			t.Errorf("%s: %v is left, %d gone, code %d; want %v, %d", x.why, left, a.n, a.code, x.left, x.gone)
		}
		checkOutlives(t, a.e)
		if again := checkCollect(t, a.e, x.root); again.n != 0 || !sameViews(viewOf(again.e), viewOf(a.e)) {
			t.Errorf("%s: again %d are gone", x.why, again.n)
		}
	}
}

func TestCollectRecords(t *testing.T) {
	m := engineOf(t, begin(), begin(), set(2, 9, numbered(1)), set(2, 5, numbered(2)), set(2, 1, slotOf(1, nil, []int{5})), set(2, 31, numbered(3)), commit(2))
	a := checkCollect(t, m.e, 1)
	want := append(slices.Clone(m.e.Log.Recs),
		impl.Rec{Lsn: 7, Tx: 3, Kind: impl.RecSet, Oid: 9, Before: numbered(1)}, impl.Rec{Lsn: 8, Tx: 3, Prev: 7, Kind: impl.RecSet, Oid: 31, Before: numbered(3)},
		impl.Rec{Lsn: 9, Tx: 3, Prev: 8, Kind: impl.RecCommit}, impl.Rec{Lsn: 10, Tx: 3, Prev: 9, Kind: impl.RecEnd})
	if a.n != 2 || a.code != impl.EngGood || !sameLogs(a.e.Log, impl.Log{Recs: want, Sure: 9}) || a.e.Next != 4 || !slices.Equal(a.e.Txs, []impl.Live{{Tx: 1}}) {
		t.Errorf("%d, code %d: %+v", a.n, a.code, a.e)
	}
	byHand := m.then(begin(), set(3, 9, impl.Slot{}), set(3, 31, impl.Slot{}), commit(3)).e
	if !sameEngines(a.e, byHand) {
		t.Errorf("another engine than by its calls: %+v, %+v", a.e, byHand)
	}
	// Where nothing is gone, it is committed nonetheless.
	none := checkCollect(t, a.e, 1)
	want = append(want, impl.Rec{Lsn: 11, Tx: 4, Kind: impl.RecCommit}, impl.Rec{Lsn: 12, Tx: 4, Prev: 11, Kind: impl.RecEnd})
	if none.n != 0 || none.code != impl.EngGood || !sameLogs(none.e.Log, impl.Log{Recs: want, Sure: 11}) || none.e.Next != 5 {
		t.Errorf("%d, code %d: %+v", none.n, none.code, none.e)
	}
}

func TestCollectRefusesRoots(t *testing.T) {
	busy := busyEngine(t)
	free := committedWith(t, viewFrom("1:2 2: 3:")).e
	six := free
	six.Txs, six.Next = []impl.Live{{Tx: 2}, {Tx: 3}, {Tx: 4}, {Tx: 5}, {Tx: 6}, {Tx: 7}}, 8
	for _, root := range wrongOids {
		for _, e := range []impl.Engine{busy, free, six, impl.EngineNew(), downEngine(t), longEngine(impl.MaxRecs-199, 1), {Next: impl.MaxTx + 1}} {
			if a := checkCollect(t, e, root); a.n != 0 || a.code != impl.EngForm || !sameEngines(a.e, e) {
				t.Errorf("from %d: %d, code %d", root, a.n, a.code)
			}
		}
	}
	for root := 1; root <= impl.MaxOid; root++ {
		if a := checkCollect(t, free, root); a.code != impl.EngGood {
			t.Errorf("from %d: code %d", root, a.code)
		}
	}
}

func checkCollected(t *testing.T, why string, e impl.Engine, code int) {
	t.Helper()
	for _, root := range []int{1, 2, impl.MaxOid} {
		if a := checkCollect(t, e, root); a.code != code {
			t.Errorf("%s: from %d: code %d, want %d", why, root, a.code, code)
		}
	}
}

func TestCollectWhileOthersAreUnderWay(t *testing.T) {
	m := committedWith(t, viewFrom("1:2 2: 3:4 4:"))
	for under := range impl.MaxLive + 1 {
		code := impl.EngGood
		if under == impl.MaxLive {
			code = impl.EngFull
		}
		checkCollected(t, fmt.Sprint(under, " under way, who hold nothing"), m.e, code)
		holds := m
		if under > 0 {
			holds = m.then(set(2, 9, numbered(1)))
			busy := impl.EngBusy
			if under == impl.MaxLive {
				busy = impl.EngFull
			}
			checkCollected(t, fmt.Sprint(under, " under way, one of whom holds something"), holds.e, busy)
			checkCollected(t, fmt.Sprint(under, " under way, one of whom holds nothing that is there"), m.then(set(1+under, 30, impl.Slot{})).e, busy)
			checkCollected(t, "the one that held something is done", holds.then(commit(2)).e, impl.EngGood)
			checkCollected(t, "the one that held something has undone it", holds.then(abort(2)).e, impl.EngGood)
		}
		if under < impl.MaxLive {
			m = m.then(begin())
		}
	}
}

func TestCollectAtTheEdgesOfNext(t *testing.T) {
	last := impl.Engine{Next: impl.MaxTx}
	last.Disk[0].Slots[1], last.Disk[7].Slots[3] = slotOf(1, nil, []int{2}), numbered(4)
	checkCollected(t, "the last transaction", last, impl.EngGood)
	a := checkCollect(t, last, 1)
	checkCollected(t, "none is left", a.e, impl.EngFull)
	a.e.Txs, a.e.Holds = []impl.Live{{Tx: 9}}, []impl.Hold{{Tx: 9, Oid: 1}}
	checkCollected(t, "none is left, and somebody holds something", a.e, impl.EngFull)
}

// longFull has a log of so many records, and an object for each Oid, each of which refers to the next one; nobody holds any of them.
func longFull(count int) impl.Engine {
	e := longEngine(count, 0)
	for oid, s := range chainOf(numbersUpTo(1, impl.MaxOid)) {
		e.Disk[oid/4].Slots[oid%4] = s
	}
	return e
}

func TestKeepAtTheEdgeOfTheLog(t *testing.T) {
	for count, full := range map[int]bool{impl.MaxRecs - 201: false, impl.MaxRecs - 200: false, impl.MaxRecs - 199: true, impl.MaxRecs - 1: true, impl.MaxRecs: true} {
		e, code, none := longFull(count), impl.EngGood, impl.EngNone
		if full {
			code, none = impl.EngFull, impl.EngFull
		}
		for root, gone := range map[int]int{1: 0, 2: 1, 16: 15, 31: 30} {
			a := checkCollect(t, e, root)
			if a.code != code || !full && (a.n != gone || len(a.e.Log.Recs) != count+gone+2) || full && (a.n != 0 || !sameEngines(a.e, e)) {
				t.Errorf("%d records, from %d: %d, code %d, %d records", count, root, a.n, a.code, len(a.e.Log.Recs))
			}
		}
		e.Disk[5].Slots[1] = impl.Slot{}
		for tx, want := range map[int]int{1: none, 2: code, 3: code, 4: none} {
			if a := checkInsert(t, e, tx, object(1)); a.code != want || want == impl.EngGood && a.n != 21 {
				t.Errorf("%d records, by %d: %d, code %d", count, tx, a.n, a.code)
			}
		}
		// All are gone, where the root is one of them.
		if a := checkCollect(t, e, 21); a.code != code || !full && a.n != 30 {
			t.Errorf("%d records, from what is not there: %d, code %d", count, a.n, a.code)
		}
		held := longEngine(count, 1)
		want := impl.EngBusy
		if full {
			want = impl.EngFull
		}
		checkCollected(t, fmt.Sprint(count, " records, and somebody holds something"), held, want)
	}
}

// scattered commits these objects in an order and by transactions as chance has it, and leaves their pages in seats, changed and written, and on the disk.
func scattered(t *testing.T, r *turns, v []impl.Slot) impl.Engine {
	t.Helper()
	m, tx := engineOf(t, begin()), 1
	start := r.below(impl.MaxOid)
	for i := range impl.MaxOid {
		oid := 1 + (start+i*11)%impl.MaxOid
		if !v[oid].Has {
			continue
		}
		switch r.below(8) {
		case 0:
			m, tx = m.then(commit(tx), begin()), tx+1
		case 1:
			m = m.then(set(tx, oid, numbered(i)), flush(r.below(impl.Pages)))
		case 2:
			m = m.then(set(tx, oid, numbered(i)), get(1+r.below(impl.MaxOid)))
		}
		m = m.then(set(tx, oid, v[oid]))
	}
	m = m.then(commit(tx))
	for range r.below(5) {
		m = m.then([]engCall{flush(r.below(impl.Pages)), get(1 + r.below(impl.MaxOid))}[r.below(2)])
	}
	if !sameViews(viewOf(m.e), v) {
		t.Fatalf("there is %v, was to be %v", viewOf(m.e), v)
	}
	return m.e
}

// whereIs tells of an object whether its page has a seat that is Dirty, one that is not, or none.
func whereIs(e impl.Engine, oid int) string {
	at := plainSeated(e.Pool, oid/4)
	switch {
	case at < 0:
		return "disk"
	case e.Pool.Seats[at].Dirty:
		return "changed"
	}
	return "written"
}

// The promise, of engines by chance: what is reached is as it was and nothing else is there, behind a crash and behind restarts that are cut off, too.
func TestWhatIsReachedIsKept(t *testing.T) {
	type place struct {
		where string
		gone  bool
	}
	found, cuts := map[place]int{}, 0
	for walk := range 500 {
		r := &turns{31 * walk}
		e := scattered(t, r, chanceView(r))
		was := viewOf(e)
		root := 1 + r.below(impl.MaxOid)
		if there := slices.IndexFunc(was, func(s impl.Slot) bool { return s.Has }); there > 0 && r.below(8) > 0 {
			root = there
		}
		a := checkCollect(t, e, root)
		if a.code != impl.EngGood {
			t.Fatalf("code %d", a.code)
		}
		for oid, s := range was {
			if s.Has {
				found[place{whereIs(e, oid), !viewOf(a.e)[oid].Has}]++
			}
		}
		want, _ := sweptView(was, root)
		up, cut := riseByPieces(t, r, checkCrash(t, a.e, r.below(4)), want)
		cuts += cut
		checkRisen(t, up, want)
		checkOutlives(t, a.e)
	}
	for _, where := range []string{"disk", "changed", "written"} {
		for _, gone := range []bool{true, false} {
			if found[place{where, gone}] < 100 {
				t.Errorf("%s, gone %v: %d only", where, gone, found[place{where, gone}])
			}
		}
	}
	if cuts < 200 {
		t.Errorf("restarts were cut off %d times only", cuts)
	}
}

// Each view of three objects, from each root there is.
func TestCollectOfAllSmallViews(t *testing.T) {
	shapes := []string{"", "%d:", "%d:1", "%d:2", "%d:3", "%d:4", "%d:1,2", "%d:2,3", "%d:3,1"}
	for _, first := range shapes {
		for _, second := range shapes {
			for _, third := range shapes {
				text := ""
				for i, shape := range []string{first, second, third} {
					if shape != "" {
						text += fmt.Sprintf(shape+" ", i+1)
					}
				}
				e := committedWith(t, viewFrom(text)).e
				for root := 1; root <= 4; root++ {
					if a := checkCollect(t, e, root); a.code != impl.EngGood {
						t.Fatalf("%s, from %d: code %d", text, root, a.code)
					}
				}
			}
		}
	}
}

// keepEngines are right, with nothing held, with all there, and with long logs among them.
func keepEngines(t *testing.T) []impl.Engine {
	out := append(goodEngines(t), fullEngine(t).e, fullEngine(t).then(begin(), set(2, 9, impl.Slot{}), begin()).e)
	for _, e := range goodEngines(t) {
		e.Holds = nil
		out = append(out, e)
	}
	r := &turns{5}
	for range 20 {
		out = append(out, scattered(t, r, chanceView(r)))
	}
	return out
}

// What Insert, Collect and Unheld do to any engine, whether it came of calls or not, is as the chapter says.
func TestKeepOfManyEngines(t *testing.T) {
	r := &turns{7}
	inserted, collected := map[int]int{}, map[int]int{}
	engines := keepEngines(t)
	slots := append(fullSlots(), slotOf(0, nil, nil))
	for range 6000 {
		e := deepEngine(engines[r.below(len(engines))])
		for range r.below(3) {
			mutate(r, &e)
		}
		inserted[checkInsert(t, e, r.below(9)-1, slots[r.below(len(slots))].O).code]++
		collected[checkCollect(t, e, r.below(34)-1).code]++
		checkUnheld(t, e)
	}
	for _, code := range []int{impl.EngGood, impl.EngForm, impl.EngNone, impl.EngFull} {
		if inserted[code] < 50 {
			t.Errorf("Insert: too few: %v", inserted)
		}
	}
	for _, code := range []int{impl.EngGood, impl.EngForm, impl.EngBusy, impl.EngFull} {
		if collected[code] < 20 {
			t.Errorf("Collect: too few: %v", collected)
		}
	}
}

// unheld is what was there ahead of all that is under way.
func (h truth) unheld() []impl.Slot {
	out := h.view()
	for _, were := range h.were {
		for oid, s := range were {
			out[oid] = s
		}
	}
	return out
}

// chanceObject refers to what may be there and what may not.
func chanceObject(r *turns) impl.Obj {
	var refs []int
	for range r.below(4) {
		refs = append(refs, r.below(impl.MaxOid+1))
	}
	return impl.Obj{Kind: 1 + r.below(99), Ints: []int{r.below(1000)}, Refs: refs}
}

// keeper goes on from an engine by calls as chance has them, and knows what must be there.
type keeper struct {
	t     *testing.T
	r     *turns
	e     impl.Engine
	h     truth
	found map[string]int
}

func (k *keeper) insert() {
	if len(k.e.Txs) == 0 {
		return
	}
	tx, o := k.e.Txs[k.r.below(len(k.e.Txs))].Tx, chanceObject(k.r)
	a := checkInsert(k.t, k.e, tx, o)
	k.found[fmt.Sprint("insert ", a.code)]++
	if a.code == impl.EngGood {
		k.h.set(tx, a.n, impl.Slot{Has: true, O: o})
	}
	k.e = a.e
}

func (k *keeper) collect() {
	root := 1 + k.r.below(impl.MaxOid)
	was := k.h.view()
	a := checkCollect(k.t, k.e, root)
	k.found[fmt.Sprint("collect ", a.code)]++
	if a.code == impl.EngGood {
		for _, oid := range plainGarbage(was, root) {
			k.h.set(k.e.Next, oid, impl.Slot{})
		}
		k.h.end(k.e.Next, true)
	}
	k.e = a.e
}

func (k *keeper) call(c engCall) {
	if c.name == "set" && c.s.Has {
		c.s.O = chanceObject(k.r)
	}
	a := callEngine(k.e, c)
	if a.code == impl.EngGood {
		k.h.note(c)
	}
	k.e = a.e
}

// endAll ends who is under way, so that something can be collected.
func (k *keeper) endAll() {
	for _, live := range k.e.Txs {
		k.call([]engCall{commit(live.Tx), commit(live.Tx), abort(live.Tx)}[k.r.below(3)])
	}
}

func (k *keeper) fall() {
	k.h.fall()
	k.e, _ = riseByPieces(k.t, k.r, checkCrash(k.t, k.e, k.r.below(6)), k.h.view())
	k.found["fall"]++
}

func (k *keeper) step() {
	switch n := k.r.below(90); {
	case n < 10:
		k.call(begin())
	case n < 45:
		k.call(nextCall(k.r, k.e))
	case n < 80:
		k.insert()
	case n < 86:
		k.collect()
	case n < 89:
		k.endAll()
		k.collect()
	default:
		k.fall()
	}
}

// The promise, and what follows beside it, of EngineNew, by many calls: objects are what they must be, and Unheld is what was committed.
func TestKeepStepByStep(t *testing.T) {
	found := map[string]int{}
	for walk := range 24 {
		k := &keeper{t, &turns{900 + 1000*walk}, impl.EngineNew(), newTruth(), found}
		for range 240 {
			k.step()
			if !impl.EngineOk(k.e) {
				t.Fatalf("what is no engine: %+v", brief(k.e))
			}
			checkTruth(t, k.e, k.h)
			checkLogAhead(t, k.e)
			checkCommitted(t, k.e)
			if got := impl.Unheld(k.e); !sameViews(got, k.h.unheld()) {
				t.Fatalf("Unheld is %v, must be %v", got, k.h.unheld())
			}
		}
	}
	for what, least := range map[string]int{"insert 0": 500, "insert 4": 20, "collect 0": 200, "collect 3": 50, "collect 4": 20, "fall": 20} {
		if found[what] < least {
			t.Errorf("%s: too few: %v", what, found)
		}
	}
}

// Each way of a few calls of two transactions, with Inserts and Collects among them.
func TestKeepOfAllShortWays(t *testing.T) {
	calls := []engCall{
		set(2, 1, slotOf(1, nil, []int{3})), set(2, 2, impl.Slot{}), set(3, 2, impl.Slot{}), commit(2), abort(2), commit(3), abort(3), flush(0),
		{name: "insert", tx: 2, s: slotOf(7, nil, []int{1})}, {name: "insert", tx: 3, s: slotOf(8, nil, nil)}, {name: "collect", oid: 1},
	}
	var walk func(e impl.Engine, left int)
	walk = func(e impl.Engine, left int) {
		checkCommitted(t, e)
		for _, c := range calls {
			if left == 0 {
				return
			}
			var a keepAnswer
			switch c.name {
			case "insert":
				a = checkInsert(t, e, c.tx, c.s.O)
			case "collect":
				a = checkCollect(t, e, c.oid)
			default:
				answer := callEngine(e, c)
				a = keepAnswer{e: answer.e, code: answer.code}
			}
			if a.code == impl.EngGood {
				walk(a.e, left-1)
			}
		}
	}
	walk(committedWith(t, viewFrom("1:2 2: 4:1")).then(begin(), begin()).e, 5)
}

func TestUnheldForms(t *testing.T) {
	one, two, three, none := numbered(1), numbered(2), numbered(3), impl.Slot{}
	for _, x := range []struct {
		why   string
		calls []engCall
		want  impl.Slot
	}{
		{"nobody holds it, and nothing is there", nil, none},
		{"nobody holds it any more", []engCall{set(1, 5, one), commit(1)}, one},
		{"made by its holder", []engCall{set(1, 5, one)}, none},
		{"changed by its holder", []engCall{set(1, 5, one), commit(1), set(2, 5, two)}, one},
		{"set several times", []engCall{set(1, 5, one), commit(1), set(2, 5, two), set(2, 5, three), set(2, 5, none)}, one},
		{"set several times, others between", []engCall{set(1, 5, one), commit(1), set(2, 6, three), set(2, 5, two), set(3, 7, one), set(2, 6, one), set(2, 5, three)}, one},
		{"made several times", []engCall{set(2, 5, two), set(2, 5, none), set(2, 5, three)}, none},
		{"set to nothing", []engCall{set(1, 5, one), commit(1), set(2, 5, none)}, one},
		{"set to what it was", []engCall{set(1, 5, one), commit(1), set(2, 5, one)}, one},
		{"set twice before by another that is done", []engCall{set(1, 5, one), set(1, 5, two), commit(1), set(2, 5, three)}, two},
		{"set before by two others", []engCall{set(1, 5, one), commit(1), set(3, 5, two), commit(3), set(2, 5, three), set(2, 5, one)}, two},
		{"set before by another that has undone it", []engCall{set(1, 5, one), abort(1), set(2, 5, two)}, none},
		{"set before by another that has undone it, over what was", []engCall{set(1, 5, one), commit(1), set(3, 5, two), abort(3), set(2, 5, three)}, one},
		{"its holder has undone it", []engCall{set(1, 5, one), commit(1), set(2, 5, two), abort(2)}, one},
		{"its holder's page is written", []engCall{set(1, 5, one), commit(1), set(2, 5, two), flush(1)}, one},
		{"its holder's page is on the disk alone", []engCall{set(1, 5, one), commit(1), set(2, 5, two), get(9), get(13), get(17), get(21)}, one},
		{"its page was written ahead", []engCall{set(1, 5, one), flush(1), commit(1), set(2, 5, two), check(), set(2, 5, three), check()}, one},
		{"another one of its page is held", []engCall{set(1, 5, one), commit(1), set(2, 6, two), set(3, 4, three)}, one},
		{"its holder set another one first", []engCall{set(1, 5, one), commit(1), set(2, 9, three), set(2, 5, two)}, one},
	} {
		e := engineOf(t, begin(), begin(), begin()).then(x.calls...).e
		checkCommitted(t, e)
		if got := checkUnheld(t, e); !sameSlot(got[5], x.want) || got[0].Has || len(got) != impl.MaxOid+1 {
			t.Errorf("%s: %v, want %v", x.why, got[5], x.want)
		}
	}
}

func TestUnheldOfSeveral(t *testing.T) {
	m := engineOf(t, begin(), begin(), begin())
	var want []impl.Slot
	for oid := range impl.MaxOid + 1 {
		want = append(want, impl.Slot{})
		if oid > 0 {
			want[oid] = numbered(oid)
			m = m.then(set(1, oid, want[oid]))
		}
	}
	m = m.then(commit(1))
	for oid := 1; oid <= impl.MaxOid; oid++ {
		if oid%4 > 0 {
			m = m.then(set(2+oid%2, oid, numbered(100+oid)), set(2+oid%2, oid, sampleSlots()[oid%7]))
		}
	}
	if got := checkUnheld(t, m.e); !sameViews(got, want) {
		t.Errorf("%v, want %v", got, want)
	}
	checkCommitted(t, m.e)
	half := m.then(commit(2)).e
	checkCommitted(t, half)
	for oid, got := range checkUnheld(t, half) {
		if oid%4 > 0 && oid%2 == 0 && !sameSlot(got, sampleSlots()[oid%7]) {
			t.Errorf("object %d: %v", oid, got)
		}
	}
	up := checkUp(t, checkCrash(t, half, 0), allSteps)
	if !sameViews(checkUnheld(t, up), viewOf(up)) {
		t.Errorf("somebody holds something behind a restart: %v", up.Holds)
	}
}

// What holds and records tell is taken as it stands, whether it came of calls or not.
func TestUnheldOfWhatCameOfNoCalls(t *testing.T) {
	sets := func(tx int, before int, after int) impl.Rec {
		return impl.Rec{Tx: tx, Kind: impl.RecSet, Oid: 5, Before: numbered(before), After: numbered(after)}
	}
	other := sets(2, 90, 91)
	other.Oid = 9
	back := impl.Rec{Tx: 2, Kind: impl.RecBack, Oid: 5, After: numbered(80)}
	for _, x := range []struct {
		why   string
		recs  []impl.Rec
		holds []impl.Hold
		want  impl.Slot
	}{
		{"no record", nil, []impl.Hold{{Tx: 2, Oid: 5}}, numbered(77)},
		{"records of others alone", []impl.Rec{sets(1, 1, 2), sets(3, 3, 4)}, []impl.Hold{{Tx: 2, Oid: 5}}, numbered(77)},
		{"records of another object alone", []impl.Rec{other}, []impl.Hold{{Tx: 2, Oid: 5}}, numbered(77)},
		{"records of another kind alone", []impl.Rec{back, rec(2, impl.RecAbort), rec(2, impl.RecCommit), checkRec()}, []impl.Hold{{Tx: 2, Oid: 5}}, numbered(77)},
		{"others ahead and behind", []impl.Rec{sets(1, 1, 2), back, other, sets(2, 3, 4), sets(3, 5, 6), sets(2, 7, 8)}, []impl.Hold{{Tx: 2, Oid: 5}}, numbered(3)},
		{"held by the later one", []impl.Rec{sets(2, 3, 4), sets(3, 5, 6), sets(3, 7, 8)}, []impl.Hold{{Tx: 2, Oid: 9}, {Tx: 3, Oid: 5}}, numbered(5)},
		{"held by nobody", []impl.Rec{sets(2, 3, 4), sets(3, 5, 6)}, []impl.Hold{{Tx: 2, Oid: 9}, {Tx: 3, Oid: 4}}, numbered(77)},
		{"its last record is a commit", []impl.Rec{sets(2, 3, 4), rec(2, impl.RecCommit)}, []impl.Hold{{Tx: 2, Oid: 5}}, numbered(3)},
	} {
		e := impl.Engine{Log: logWith(x.recs...), Holds: x.holds, Next: 4}
		e.Disk[1].Slots[1] = numbered(77)
		for tx := 2; tx <= 3; tx++ {
			e.Txs = append(e.Txs, impl.Live{Tx: tx})
			for _, r := range e.Log.Recs {
				if r.Tx == tx {
					e.Txs[tx-2].Last = r.Lsn
				}
			}
		}
		if !impl.EngineOk(e) {
			t.Fatalf("%s: no engine: %+v", x.why, e)
		}
		if got := checkUnheld(t, e); !sameSlot(got[5], x.want) {
			t.Errorf("%s: %v, want %v", x.why, got[5], x.want)
		}
	}
}

// The chapter names no engine that Unheld refuses.
func TestUnheldOfWhatIsNoEngine(t *testing.T) {
	for _, w := range wrongEngines(t) {
		checkUnheld(t, w.e)
	}
	for _, e := range goodEngines(t) {
		got := checkUnheld(t, e)
		if len(e.Holds) == 0 && !sameViews(got, viewOf(e)) {
			t.Errorf("nobody holds anything: %v", got)
		}
	}
	e := engineOf(t, begin(), set(1, 5, numbered(1)), commit(1), begin(), set(2, 5, numbered(2))).e
	for _, oid := range wrongOids {
		e.Holds = []impl.Hold{{Tx: 2, Oid: oid}, {Tx: 2, Oid: 5}, {Tx: 1, Oid: 5}}
		if got := checkUnheld(t, e); !sameSlot(got[5], numbered(1)) || got[0].Has {
			t.Errorf("a hold of %d: %v", oid, got)
		}
	}
}

// keepRooms are engines with something foreign in the room behind each list: one where somebody holds something, one where nobody does, and such as are refused; in some of them there is an Oid for one more.
func keepRooms() ([]impl.Engine, func() bool) {
	held, kept := engineRoom()
	free, down, wrong, gap := held, held, held, held
	free.Holds = held.Holds[:0]
	down.Down, wrong.Next = true, 2
	gap.Disk[5].Slots[2] = impl.Slot{}
	freeGap, last := gap, free
	freeGap.Holds, last.Next = held.Holds[:0], impl.MaxTx+1
	return []impl.Engine{held, free, gap, freeGap, last, down, wrong}, kept
}

func TestKeepArgumentsAreLeft(t *testing.T) {
	engines, kept := keepRooms()
	s, rooms := spareSlot()
	wrong := impl.Obj{Kind: 100, Ints: s.O.Ints, Refs: s.O.Refs}
	codes := map[int]int{}
	for _, e := range engines {
		for n := -1; n < 33; n++ {
			for _, answer := range []func() keepAnswer{
				func() keepAnswer { return collect(e, n) }, func() keepAnswer { return insert(e, n, s.O) }, func() keepAnswer { return insert(e, n, wrong) },
			} {
				a := answer()
				codes[a.code]++
				view := impl.Unheld(e)
				if !kept() || !roomsKept(rooms) {
					t.Fatalf("%d: an argument was written into", n)
				}
				scribbleEngine(a.e)
				for _, s := range view {
					scribble(s.O.Ints)
					scribble(s.O.Refs)
				}
				clear(view[:cap(view)])
				if !kept() || !roomsKept(rooms) {
					t.Fatalf("%d: an argument is shared", n)
				}
			}
		}
	}
	for code := range 5 {
		if codes[code] == 0 {
			t.Errorf("no code %d: %v", code, codes)
		}
	}
}

// sharedEngine has objects, records and transactions all of which share one list.
func sharedEngine(t *testing.T, list []int) impl.Engine {
	t.Helper()
	s := slotOf(7, list, list)
	m := engineOf(t, begin(), begin(), set(2, 31, s), check())
	for i := range 6 {
		m = m.then(set(1, 4*i+1, s), set(1, 4*i+2, s), set(1, 4*i+1, s))
	}
	m = m.then(check(), commit(1))
	for i := range m.e.Log.Recs {
		if m.e.Log.Recs[i].Kind == impl.RecSet {
			m.e.Log.Recs[i].Before, m.e.Log.Recs[i].After = s, s
		}
	}
	return m.e
}

func TestKeepAnswersShareNothing(t *testing.T) {
	list := []int{1, 2, 3}
	held := sharedEngine(t, list)
	free, wrong := held, held
	free.Holds, wrong.Next = nil, 0
	o := slotOf(7, list, list).O
	for n, answer := range []func() keepAnswer{
		func() keepAnswer { return insert(held, 2, o) }, func() keepAnswer { return insert(held, 1, o) },
		func() keepAnswer { return insert(held, 2, impl.Obj{Refs: list}) }, func() keepAnswer { return insert(wrong, 2, o) },
		func() keepAnswer { return collect(free, 1) }, func() keepAnswer { return collect(free, 30) }, func() keepAnswer { return collect(free, 0) },
		func() keepAnswer { return collect(held, 1) }, func() keepAnswer { return collect(wrong, 1) },
	} {
		engine := func() impl.Sched { return impl.Sched{E: answer().e} }
		checkOwnParts(t, fmt.Sprint("answer ", n), engine(), engine)
	}
	if !slices.Equal(list, []int{1, 2, 3}) {
		t.Errorf("an answer shares memory with an argument: %v", list)
	}
}

func viewLists(v []impl.Slot) [][]int {
	var out [][]int
	for _, s := range v {
		out = append(out, s.O.Ints, s.O.Refs)
	}
	return out
}

func TestUnheldSharesNothing(t *testing.T) {
	list := []int{1, 2, 3}
	e := sharedEngine(t, list)
	wanted := viewLists(impl.Unheld(e))
	for i := range wanted {
		got := viewLists(impl.Unheld(e))
		scribble(got[i])
		for j := range got {
			if j != i && !slices.Equal(got[j], wanted[j]) {
				t.Fatalf("list %d changed with list %d", j, i)
			}
		}
	}
	if !slices.Equal(wanted[2*31], list) || !slices.Equal(wanted[2*1], list) || !slices.Equal(list, []int{1, 2, 3}) {
		t.Errorf("%v, %v", wanted, list)
	}
}

func TestKeepCallsKeepNothing(t *testing.T) {
	busy, free := busyEngine(t), fullEngine(t).then(begin(), set(2, 9, impl.Slot{}), commit(2)).e
	answers := func() []keepAnswer {
		return []keepAnswer{insert(busy, 3, object(1, 2)), insert(busy, 9, object(1)), insert(busy, 3, impl.Obj{}), collect(busy, 1), collect(free, 4), collect(free, 12), collect(free, 0)}
	}
	first, view := answers(), impl.Unheld(busy)
	for _, w := range wrongEngines(t)[:200] {
		scribbleEngine(insert(w.e, 3, object(5, 6)).e)
		scribbleEngine(collect(w.e, 1).e)
		clear(impl.Unheld(w.e))
	}
	for range 2 {
		for i, a := range answers() {
			if a.n != first[i].n || a.code != first[i].code || !sameEngines(a.e, first[i].e) {
				t.Errorf("answer %d: what was called ahead is seen: %+v", i, a)
			}
			scribbleEngine(a.e)
		}
		again := impl.Unheld(busy)
		if !sameViews(again, view) {
			t.Errorf("what was called ahead is seen: %v", again)
		}
		clear(again)
	}
}
