package tests

import (
	"fmt"
	"math"
	"slices"
	"strconv"
	"strings"
	"testing"

	"loop.example/g00181/impl"
)

// viewFrom reads "1:2,3 2: 3:0,9": the objects that are there, and their Refs.
func viewFrom(text string) []impl.Slot {
	v := make([]impl.Slot, impl.MaxOid+1)
	for _, word := range strings.Fields(text) {
		name, list, found := strings.Cut(word, ":")
		oid, err := strconv.Atoi(name)
		if !found || err != nil {
			panic("no object: " + word)
		}
		v[oid] = slotOf(1+oid, nil, intsFrom(list))
	}
	return v
}

// intsFrom reads "1,2,3".
func intsFrom(text string) []int {
	var out []int
	for _, word := range strings.FieldsFunc(text, func(r rune) bool { return r == ',' }) {
		n, err := strconv.Atoi(word)
		if err != nil {
			panic("no number: " + word)
		}
		out = append(out, n)
	}
	return out
}

// viewText is viewFrom back, right or not.
func viewText(v []impl.Slot) string {
	var words []string
	for oid, s := range v {
		if s.Has {
			words = append(words, fmt.Sprintf("%d:%s", oid, strings.Trim(strings.ReplaceAll(fmt.Sprint(s.O.Refs), " ", ","), "[]")))
		}
	}
	return strings.Join(words, " ")
}

func deepView(v []impl.Slot) []impl.Slot {
	out := slices.Clone(v)
	for i := range out {
		out[i] = deepSlot(out[i])
	}
	return out
}

// What follows, to plainDangling, is the chapter once more, by other means: what the calls are held against.

func plainViewOk(v []impl.Slot) bool {
	ok := len(v) == 32 && !v[0].Has
	for _, s := range v {
		ok = ok && plainSlotOk(s)
	}
	return ok
}

// plainReach goes over all objects until nobody names anything new.
func plainReach(v []impl.Slot, root int) []int {
	var in [32]bool
	if !plainViewOk(v) || root < 1 || root > 31 || !v[root].Has {
		return nil
	}
	in[root] = true
	for more := true; more; {
		more = false
		for oid := 31; oid > 0; oid-- {
			for _, ref := range v[oid].O.Refs {
				if in[oid] && ref > 0 && v[ref].Has && !in[ref] {
					in[ref], more = true, true
				}
			}
		}
	}
	var out []int
	for oid, is := range in {
		if is {
			out = append(out, oid)
		}
	}
	return out
}

func plainMark(v []impl.Slot, root int, most int) ([]bool, int) {
	if !plainViewOk(v) || root < 1 || root > 31 || most < 1 || most > 40 {
		return nil, 0
	}
	marks, times := make([]bool, 32), 0
	var stack []int
	// Who finds no room is told here, so that it is seen who was left over, not only that somebody was.
	var over []int
	put := func(oid int) {
		if len(stack) < most {
			stack = append(stack, oid)
		} else {
			over = append(over, oid)
		}
	}
	if v[root].Has {
		marks[root] = true
		put(root)
	}
	for {
		for len(stack) > 0 {
			top := stack[len(stack)-1]
			stack = slices.Delete(stack, len(stack)-1, len(stack))
			for _, ref := range v[top].O.Refs {
				if ref != 0 && v[ref].Has && !marks[ref] {
					marks[ref] = true
					put(ref)
				}
			}
		}
		if len(over) == 0 {
			return marks, times
		}
		over = nil
		times++
		for oid := 1; oid < 32; oid++ {
			open := 0
			for _, ref := range v[oid].O.Refs {
				if ref != 0 && v[ref].Has && !marks[ref] {
					open++
				}
			}
			if marks[oid] && open > 0 {
				put(oid)
			}
		}
	}
}

func plainGarbage(v []impl.Slot, root int) []int {
	var out []int
	reached := plainReach(v, root)
	for oid := range v {
		if plainViewOk(v) && v[oid].Has && !slices.Contains(reached, oid) {
			out = append(out, oid)
		}
	}
	return out
}

func plainDangling(v []impl.Slot) [][2]int {
	var out [][2]int
	for oid := range v {
		for _, ref := range v[oid].O.Refs {
			if plainViewOk(v) && ref != 0 && !v[ref].Has {
				out = append(out, [2]int{oid, ref})
			}
		}
	}
	return out
}

// checkMark holds the marks against what is reached, and how often the view was looked through against the chapter.
func checkMark(t *testing.T, v []impl.Slot, root int, most int) int {
	t.Helper()
	marks, times := impl.Mark(v, root, most)
	wantMarks, wantTimes := plainMark(v, root, most)
	if !slices.Equal(marks, wantMarks) || times != wantTimes {
		t.Fatalf("Mark of %s from %d by %d places: %v, %d; must be %v, %d", viewText(v), root, most, marks, times, wantMarks, wantTimes)
	}
	reached := plainReach(v, root)
	for oid, is := range marks {
		if is != slices.Contains(reached, oid) {
			t.Fatalf("Mark of %s from %d by %d places: %d is %v, reached is %v", viewText(v), root, most, oid, is, reached)
		}
	}
	return times
}

// checkRoot asks all that is asked of a view from a root.
func checkRoot(t *testing.T, v []impl.Slot, root int, mosts ...int) {
	t.Helper()
	was := deepView(v)
	if got, want := impl.Reach(v, root), plainReach(v, root); !slices.Equal(got, want) {
		t.Fatalf("Reach of %s from %d: %v, must be %v", viewText(v), root, got, want)
	}
	if got, want := impl.Garbage(v, root), plainGarbage(v, root); !slices.Equal(got, want) {
		t.Fatalf("Garbage of %s from %d: %v, must be %v", viewText(v), root, got, want)
	}
	for _, most := range mosts {
		checkMark(t, v, root, most)
	}
	if !sameViews(v, was) {
		t.Fatalf("%s was made of %s", viewText(v), viewText(was))
	}
}

func checkDangling(t *testing.T, v []impl.Slot) {
	t.Helper()
	was := deepView(v)
	if got, want := impl.ViewOk(v), plainViewOk(v); got != want {
		t.Fatalf("ViewOk of %s: %v", viewText(v), got)
	}
	if got, want := impl.Dangling(v), plainDangling(v); !slices.Equal(got, want) {
		t.Fatalf("Dangling of %s: %v, must be %v", viewText(v), got, want)
	}
	if !sameViews(v, was) {
		t.Fatalf("%s was made of %s", viewText(v), viewText(was))
	}
}

var allMosts = numbersUpTo(1, 40)

func numbersUpTo(from int, to int) []int {
	var out []int
	for n := from; n <= to; n++ {
		out = append(out, n)
	}
	return out
}

// chanceView has objects with about so many Refs each, of all Oids or of the first few alone.
func chanceView(r *turns) []impl.Slot {
	v := make([]impl.Slot, impl.MaxOid+1)
	top, there, named := 1+r.below(31), 1+r.below(4), 1+r.below(5)
	for oid := 1; oid <= top; oid++ {
		if r.below(4) >= there {
			continue
		}
		var refs []int
		for range r.below(named + 1) {
			refs = append(refs, r.below(min(top+2, 32)))
		}
		v[oid] = slotOf(1+r.below(99), nil, refs)
	}
	return v
}

func TestReachOfChanceViews(t *testing.T) {
	r := &turns{11}
	anew := map[int]int{}
	for range 3000 {
		v := chanceView(r)
		checkDangling(t, v)
		root := 1 + r.below(31)
		checkRoot(t, v, root, 1, 2, 3, 4, 5+r.below(36), 40)
		for most := 1; most < 4; most++ {
			anew[checkMark(t, v, 1+r.below(4), most)]++
		}
	}
	for times := range 4 {
		if anew[times] == 0 {
			t.Errorf("no view was looked through %d times: %v", times, anew)
		}
	}
}

// Each view of three objects with at most two Refs each, which may go to nothing and to what is not there.
func TestReachOfAllSmallViews(t *testing.T) {
	shapes := []string{"-", ""}
	for a := range 5 {
		shapes = append(shapes, strconv.Itoa(a))
		for b := range 5 {
			shapes = append(shapes, fmt.Sprintf("%d,%d", a, b))
		}
	}
	for _, first := range shapes {
		for _, second := range shapes {
			for _, third := range shapes {
				v := make([]impl.Slot, impl.MaxOid+1)
				for i, shape := range []string{first, second, third} {
					if shape != "-" {
						v[i+1] = slotOf(1, nil, intsFrom(shape))
					}
				}
				for root := 1; root < 4; root++ {
					if got, want := impl.Reach(v, root), plainReach(v, root); !slices.Equal(got, want) {
						t.Fatalf("Reach of %s from %d: %v, must be %v", viewText(v), root, got, want)
					}
				}
				checkMark(t, v, 1, 1)
				checkMark(t, v, 1, 2)
			}
		}
	}
}

func TestReachFromEachRoot(t *testing.T) {
	for _, text := range []string{
		"", "1:2,3 2:1,4 3:0,9 4:4 6:1,7 7:6", "31:31,30 30:29 29:0,0,31", "1:31 31:1", "5:6,7,8,9,10 6:11 7:12 8:13 9:14 10:15 11:16 16:5",
	} {
		v := viewFrom(text)
		checkDangling(t, v)
		for root := -1; root < 34; root++ {
			checkRoot(t, v, root, append([]int{-1, 0, 41, 42}, allMosts...)...)
		}
	}
}

// chainOf names each Oid from one to another, each of them the next.
func chainOf(oids []int) []impl.Slot {
	v := make([]impl.Slot, impl.MaxOid+1)
	for i, oid := range oids {
		v[oid] = slotOf(1, nil, nil)
		if i > 0 {
			v[oids[i-1]].O.Refs = []int{oid}
		}
	}
	return v
}

func TestReachForms(t *testing.T) {
	all := numbersUpTo(1, 31)
	for _, x := range []struct {
		why     string
		v       []impl.Slot
		root    int
		reached []int
		garbage []int
	}{
		{"nothing is there", viewFrom(""), 1, nil, nil},
		{"the root is not there", viewFrom("2:3 3:"), 1, nil, []int{2, 3}},
		{"the root is not there, but named", viewFrom("2:1,3 3:1"), 1, nil, []int{2, 3}},
		{"one alone", viewFrom("7:"), 7, []int{7}, nil},
		{"one names itself", viewFrom("7:7"), 7, []int{7}, nil},
		{"one names the same twice", viewFrom("7:3,3 3:"), 7, []int{3, 7}, nil},
		{"two name each other", viewFrom("7:3 3:7"), 7, []int{3, 7}, nil},
		{"two name each other, but nobody them", viewFrom("7:3 3:7 1:"), 1, []int{1}, []int{3, 7}},
		{"who names the root is not reached by that", viewFrom("7:1 1:"), 1, []int{1}, []int{7}},
		{"a Ref of 0", viewFrom("7:0,3 3:0"), 7, []int{3, 7}, nil},
		{"a Ref to what is not there", viewFrom("7:4,3 3:4"), 7, []int{3, 7}, nil},
		{"nothing is reached over what is not there", viewFrom("7:4 5:"), 7, []int{7}, []int{5}},
		{"the last Ref of five", viewFrom("7:0,0,0,0,31 31:1 1:"), 7, []int{1, 7, 31}, nil},
		{"the last object", viewFrom("31:"), 31, []int{31}, nil},
		{"all, ascending", chainOf(all), 1, all, nil},
		{"all, from the last back", chainOf(backward(all)), 31, all, nil},
		{"from the middle on", chainOf(all), 16, all[15:], all[:15]},
		{"from the end", chainOf(all), 31, all[30:], all[:30]},
		{"five, and five more by one of them", viewFrom("1:2,3,4,5,6 2: 3: 4: 5: 6:7,8,9,10,11 7: 8: 9: 10: 11: 12:"), 1, all[:11], []int{12}},
	} {
		if got := impl.Reach(x.v, x.root); !slices.Equal(got, x.reached) {
			t.Errorf("%s: %v is reached, must be %v", x.why, got, x.reached)
		}
		if got := impl.Garbage(x.v, x.root); !slices.Equal(got, x.garbage) {
			t.Errorf("%s: %v is garbage, must be %v", x.why, got, x.garbage)
		}
		checkDangling(t, x.v)
		checkRoot(t, x.v, x.root, allMosts...)
	}
}

func backward(list []int) []int {
	out := slices.Clone(list)
	slices.Reverse(out)
	return out
}

func TestMarkTimes(t *testing.T) {
	for _, x := range []struct {
		why  string
		v    []impl.Slot
		root int
		most int
		want int
	}{
		{"nothing is there", viewFrom(""), 1, 1, 0},
		{"the root is not there", viewFrom("2:3,4 3: 4:"), 1, 1, 0},
		{"one names itself", viewFrom("1:1,1,1"), 1, 1, 0},
		{"one names the same twice", viewFrom("1:2,2 2:"), 1, 1, 0},
		{"two name each other", viewFrom("1:2 2:1"), 1, 1, 0},
		{"a chain needs one place", chainOf(numbersUpTo(1, 31)), 1, 1, 0},
		{"a chain back, too", chainOf(backward(numbersUpTo(1, 31))), 31, 1, 0},
		{"Refs of 0, and to what is not there, need none", viewFrom("1:0,9,2,0,8 2:"), 1, 1, 0},
		{"full at the first Refs, but nothing hangs on them", viewFrom("1:2,3 2: 3:"), 1, 1, 1},
		{"just large enough", viewFrom("1:2,3 2: 3:"), 1, 2, 0},
		{"five, one place", viewFrom("1:2,3,4,5,6 2: 3: 4: 5: 6:"), 1, 1, 1},
		{"five, four places", viewFrom("1:2,3,4,5,6 2: 3: 4: 5: 6:"), 1, 4, 1},
		{"five, five places", viewFrom("1:2,3,4,5,6 2: 3: 4: 5: 6:"), 1, 5, 0},
		{"five, forty places", viewFrom("1:2,3,4,5,6 2: 3: 4: 5: 6:"), 1, 40, 0},
		{"on one that was left over something hangs", viewFrom("1:2,3 2:4 3:5 4: 5:"), 1, 1, 1},
		{"what was left over is named by another", viewFrom("1:2,3 2:3 3:"), 1, 1, 1},
		{"full again when looked through anew", viewFrom("1:2,3,4 2:5 3:6 4:7 5: 6: 7:"), 1, 1, 2},
		{"the same, with room for both", viewFrom("1:2,3,4 2:5 3:6 4:7 5: 6: 7:"), 1, 2, 1},
		{"the same, just large enough", viewFrom("1:2,3,4 2:5 3:6 4:7 5: 6: 7:"), 1, 3, 0},
		{"full again behind that", viewFrom("1:2,3 2: 3:4,5 4:6 5:7 6: 7:"), 1, 1, 2},
		{"full again behind that, but nothing hangs on it", viewFrom("1:2,3 2: 3:4,5 4: 5:"), 1, 1, 2},
		{"three times", viewFrom("1:2,3 2: 3:4,5 4: 5:6,7 6: 7:"), 1, 1, 3},
		{"two that are left over, the later one is reached by the first", viewFrom("1:2,3,4 2: 3:5 4:5 5:"), 1, 1, 2},
		{"the last one is taken first", viewFrom("1:2,3 2:4,5 3: 4: 5:"), 1, 2, 0},
		{"the last one is taken first: the other one is in its way", viewFrom("1:2,3 2: 3:4,5 4: 5:"), 1, 2, 1},
	} {
		if _, got := impl.Mark(x.v, x.root, x.most); got != x.want {
			t.Errorf("%s: looked through %d times, must be %d", x.why, got, x.want)
		}
		checkMark(t, x.v, x.root, x.most)
	}
}

// The last of the root's five is taken while four others are put, and five more come then: nine places are enough, eight are not.
func TestMarkRoom(t *testing.T) {
	wide := viewFrom("1:2,3,4,5,6 2:7,8,9,10,11 3:12,13,14,15,16 4:17,18,19,20,21 5:22,23,24,25,26 6:27,28,29,30,31")
	for oid := 7; oid <= impl.MaxOid; oid++ {
		wide[oid] = slotOf(1, nil, nil)
	}
	for i, want := range []int{5, 3, 2, 2, 1, 1, 1, 1, 0, 0} {
		if got := checkMark(t, wide, 1, i+1); got != want {
			t.Errorf("by %d places: looked through %d times, must be %d", i+1, got, want)
		}
	}
	for _, most := range allMosts {
		checkMark(t, wide, 1, most)
	}
}

func TestMarkHasAMarkForEachOid(t *testing.T) {
	for _, x := range []struct {
		v    []impl.Slot
		root int
		want []int
	}{{viewFrom(""), 1, nil}, {viewFrom("2:"), 1, nil}, {viewFrom("31:"), 31, []int{31}}, {viewFrom("1:31 31:"), 1, []int{1, 31}}} {
		for _, most := range []int{1, 2, 40} {
			marks, _ := impl.Mark(x.v, x.root, most)
			var got []int
			for oid, is := range marks {
				if is {
					got = append(got, oid)
				}
			}
			if len(marks) != impl.MaxOid+1 || !slices.Equal(got, x.want) {
				t.Errorf("Mark of %s from %d by %d: %v", viewText(x.v), x.root, most, marks)
			}
		}
	}
}

func TestDanglingForms(t *testing.T) {
	for _, x := range []struct {
		text string
		want [][2]int
	}{
		{"", nil},
		{"1:", nil},
		{"1:0,0", nil},
		{"1:1", nil},
		{"1:2 2:1", nil},
		{"1:2", [][2]int{{1, 2}}},
		{"1:31", [][2]int{{1, 31}}},
		{"31:1", [][2]int{{31, 1}}},
		{"3:9,0,3,2,31", [][2]int{{3, 9}, {3, 2}, {3, 31}}},
		{"3:9,8,9,9", [][2]int{{3, 9}, {3, 8}, {3, 9}, {3, 9}}},
		{"9:1,2 3:9,4 1:2", [][2]int{{1, 2}, {3, 4}, {9, 2}}},
		{"31:30,29,28,27,26 1:30,2,28,3,26", [][2]int{{1, 30}, {1, 2}, {1, 28}, {1, 3}, {1, 26}, {31, 30}, {31, 29}, {31, 28}, {31, 27}, {31, 26}}},
	} {
		v := viewFrom(x.text)
		if got := impl.Dangling(v); !slices.Equal(got, x.want) {
			t.Errorf("Dangling of %s: %v, must be %v", x.text, got, x.want)
		}
		checkDangling(t, v)
	}
}

// What an engine has is a view, whatever its objects name.
func TestReachOfEngines(t *testing.T) {
	for _, e := range goodEngines(t) {
		v := impl.View(e)
		if !impl.ViewOk(v) {
			t.Fatalf("no view: %v", v)
		}
		checkDangling(t, v)
		for root := 1; root <= impl.MaxOid; root++ {
			checkRoot(t, v, root, 1, 2, 40)
		}
	}
}

type wrongView struct {
	why string
	v   []impl.Slot
}

// wrongViews have one thing that is not right.
func wrongViews() []wrongView {
	const good = "1:2,3 2:1,4 3:0,9 4:4 6:1,7 7:6 31:30"
	out := []wrongView{{"none", nil}, {"no slots", []impl.Slot{}}, {"one slot", make([]impl.Slot, 1)}, {"one too few, nothing there", make([]impl.Slot, 31)}}
	for _, slots := range []int{2, 8, 30, 31, 33, 34, 64} {
		v := slices.Concat(viewFrom(good), viewFrom(good))
		v[32] = impl.Slot{}
		out = append(out, wrongView{fmt.Sprint(slots, " slots"), v[:slots]})
	}
	for _, s := range fullSlots() {
		v := viewFrom(good)
		v[0] = s
		out = append(out, wrongView{"something in the slot of 0", v})
	}
	for i, s := range append(wrongSlots(), slotOf(1, nil, numbersUpTo(1, 10))) {
		for _, oid := range []int{0, 1, 5, 31} {
			v := viewFrom(good)
			v[oid] = s
			out = append(out, wrongView{fmt.Sprintf("wrong slot %d at %d", i, oid), v})
		}
	}
	return out
}

func TestReachRefusesWhatIsNoView(t *testing.T) {
	for _, w := range wrongViews() {
		was := deepView(w.v)
		if impl.ViewOk(w.v) || plainViewOk(w.v) {
			t.Errorf("%s: a view", w.why)
		}
		for _, root := range []int{math.MinInt64, -1, 0, 1, 2, 5, 31, 32, math.MaxInt64} {
			if got := impl.Reach(w.v, root); len(got) != 0 {
				t.Errorf("%s: %v is reached from %d", w.why, got, root)
			}
			if got := impl.Garbage(w.v, root); len(got) != 0 {
				t.Errorf("%s: %v is garbage from %d", w.why, got, root)
			}
			for _, most := range []int{0, 1, 40, 41} {
				if marks, times := impl.Mark(w.v, root, most); len(marks) != 0 || times != 0 {
					t.Errorf("%s: marks %v and %d from %d", w.why, marks, times, root)
				}
			}
		}
		if got := impl.Dangling(w.v); len(got) != 0 {
			t.Errorf("%s: %v dangle", w.why, got)
		}
		if !sameViews(w.v, was) {
			t.Errorf("%s: %v was made of it", w.why, w.v)
		}
	}
}

// An empty list is no other than none, in a slot that has nothing, too.
func TestViewOkTakesEmptyListsAsNone(t *testing.T) {
	v := viewFrom("1:2 2:")
	for i := range v {
		v[i].O.Ints = []int{}
		if i != 1 {
			v[i].O.Refs = []int{}
		}
	}
	if !impl.ViewOk(v) {
		t.Error("no view")
	}
	checkRoot(t, v, 1, allMosts...)
}

func TestReachRefusesWhatIsNoRoot(t *testing.T) {
	for _, text := range []string{"", "1:2,3 2:1,4 3:0,9 4:4 6:1,7 7:6 31:30"} {
		v := viewFrom(text)
		var there []int
		for oid, s := range v {
			if s.Has {
				there = append(there, oid)
			}
		}
		for _, root := range []int{0, 32, 33, 64, math.MaxInt64, -1, -2, -31, -32, math.MinInt64} {
			if got := impl.Reach(v, root); len(got) != 0 {
				t.Errorf("%v is reached from %d", got, root)
			}
			for _, most := range []int{0, 1, 40, 41} {
				if marks, times := impl.Mark(v, root, most); len(marks) != 0 || times != 0 {
					t.Errorf("marks %v and %d from %d", marks, times, root)
				}
			}
			// Nothing is reached from there, so all that is there is garbage.
			if got := impl.Garbage(v, root); !slices.Equal(got, there) {
				t.Errorf("%v is garbage from %d, there is %v", got, root, there)
			}
		}
	}
}

func TestMarkRefusesStacks(t *testing.T) {
	v := viewFrom("1:2,3 2:1,4 3:0,9 4:4")
	for _, root := range []int{1, 4, 9} {
		for _, most := range []int{0, -1, -40, 41, 42, 1000, math.MaxInt64, math.MinInt64} {
			if marks, times := impl.Mark(v, root, most); len(marks) != 0 || times != 0 {
				t.Errorf("by %d places from %d: %v and %d", most, root, marks, times)
			}
		}
		for _, most := range []int{1, 40} {
			if marks, _ := impl.Mark(v, root, most); len(marks) != impl.MaxOid+1 {
				t.Errorf("by %d places from %d: %v", most, root, marks)
			}
		}
	}
}

// roomyView is a view with foreign slots behind its end, and foreign numbers behind its lists; kept tells whether all of it is as it was.
func roomyView() ([]impl.Slot, func() bool) {
	var rooms [][2][]int
	whole := make([]impl.Slot, impl.MaxOid+4)
	for _, oid := range []int{1, 5, 31, 32, 33, 34} {
		s, kept := spareSlot()
		whole[oid] = s
		rooms = append(rooms, kept)
	}
	was := deepView(whole)
	return whole[:impl.MaxOid+1], func() bool {
		return sameViews(whole, was) && !slices.ContainsFunc(rooms, func(r [2][]int) bool { return !roomsKept(r) })
	}
}

func TestReachArgumentsAreLeft(t *testing.T) {
	v, kept := roomyView()
	for _, view := range [][]impl.Slot{v, v[:31], v[1:]} {
		for _, root := range []int{-1, 0, 1, 5, 31, 32} {
			for _, most := range []int{0, 1, 2, 40, 41} {
				marks, _ := impl.Mark(view, root, most)
				clear(marks[:cap(marks)])
			}
			scribble(impl.Reach(view, root))
			scribble(impl.Garbage(view, root))
		}
		pairs := impl.Dangling(view)
		clear(pairs[:cap(pairs)])
		impl.ViewOk(view)
		if !kept() {
			t.Fatal("an argument was written into, or is shared")
		}
	}
}

func reachAnswers(v []impl.Slot, root int) string {
	marks, times := impl.Mark(v, root, 1)
	return fmt.Sprint(impl.ViewOk(v), impl.Reach(v, root), marks, times, impl.Garbage(v, root), impl.Dangling(v))
}

func TestReachCallsKeepNothing(t *testing.T) {
	v, other := viewFrom("1:2,3,4 2:5 3:6 4:7 5: 6: 7: 8:9,9"), viewFrom("1:31 31:1,2 20:1")
	first := reachAnswers(v, 1)
	for _, w := range wrongViews() {
		reachAnswers(w.v, 1)
		reachAnswers(other, 1)
		reachAnswers(v, 32)
	}
	for range 2 {
		if again := reachAnswers(v, 1); again != first {
			t.Errorf("what was called ahead is seen: %s, was %s", again, first)
		}
		scribble(impl.Reach(v, 1))
		scribble(impl.Garbage(v, 1))
		marks, _ := impl.Mark(v, 1, 1)
		clear(marks)
		clear(impl.Dangling(v))
	}
}
