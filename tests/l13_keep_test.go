package tests

import (
	"testing"

	"loop.example/g00181/impl"
)

// checkView asks of each object that it is told as in its seat, or else as on the disk.
func checkView(t *testing.T, e impl.Engine) []impl.Slot {
	t.Helper()
	was := deepEngine(e)
	got := impl.View(e)
	if len(got) != impl.MaxOid+1 || !sameViews(got, viewOf(e)) {
		t.Fatalf("View of %+v: %v", brief(e), got)
	}
	if !sameEngines(e, was) {
		t.Fatalf("View made %+v of %+v", brief(e), brief(was))
	}
	return got
}

func TestViewOfManyEngines(t *testing.T) {
	r := &turns{3}
	for _, e := range goodEngines(t) {
		checkView(t, e)
	}
	h, e := newTruth(), impl.EngineNew()
	for range 1500 {
		c := nextCall(r, e)
		if a := callEngine(e, c); a.code == impl.EngGood {
			e = a.e
			h.note(c)
		}
		for oid, got := range checkView(t, e) {
			if !sameSlot(got, h.now[oid]) {
				t.Fatalf("object %d is %v, must be %v", oid, got, h.now[oid])
			}
		}
	}
}

func TestViewForms(t *testing.T) {
	e := engineOf(t, begin(), set(1, 5, numbered(1)), flush(1), set(1, 5, numbered(2)), set(1, 31, numbered(3))).e
	view := checkView(t, e)
	if !sameSlot(view[5], numbered(2)) || !sameSlot(view[31], numbered(3)) || view[0].Has || view[6].Has {
		t.Errorf("what is changed, but not written: %v", view)
	}
	e.Pool.Seats = nil
	if view = checkView(t, e); !sameSlot(view[5], numbered(1)) || view[31].Has {
		t.Errorf("what is written: %v", view)
	}
	// That of 0 has nothing, whatever stands in the first page.
	e.Disk[0].Slots[0] = numbered(9)
	e.Pool.Seats = []impl.Seat{{No: 0, P: e.Disk[0], Dirty: true}}
	if view = checkView(t, e); view[0].Has || len(view[0].O.Ints) != 0 {
		t.Errorf("object 0: %v", view[0])
	}
}

// The chapter names no engine that View refuses.
func TestViewOfWhatIsNoEngine(t *testing.T) {
	for _, w := range wrongEngines(t) {
		checkView(t, w.e)
	}
}

func TestViewSharesNothing(t *testing.T) {
	e, kept := engineRoom()
	for range 2 {
		for _, s := range impl.View(e) {
			scribble(s.O.Ints)
			scribble(s.O.Refs)
		}
		if !kept() {
			t.Fatal("an argument is shared")
		}
	}
	list := []int{1, 2, 3}
	slot := slotOf(7, list, list)
	m := engineOf(t, begin(), set(1, 1, slot), set(1, 2, slot))
	m.e.Disk[7].Slots[1] = slot
	m.e.Disk[7].Slots[2] = slot
	want := impl.View(m.e)
	for oid := range want {
		got := impl.View(m.e)
		scribble(got[oid].O.Ints)
		if len(got[oid].O.Refs) > 0 && got[oid].O.Refs[0] != 1 {
			t.Errorf("object %d: its lists share memory", oid)
		}
		for other := range got {
			if other != oid && !sameSlot(got[other], want[other]) {
				t.Errorf("object %d changed with object %d", other, oid)
			}
		}
	}
	if list[0] != 1 {
		t.Errorf("an answer shares memory with an argument: %v", list)
	}
}
