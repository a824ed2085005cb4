package flat_test

import (
	"math"
	"slices"
	"testing"

	"sharedhearth/api"
	"sharedhearth/flat"
)

var kinds = []int{api.OpLoad, api.OpStore, api.OpAdd, api.OpEvict}

// odd are numbers that are neither kinds, nor lines of a small memory, nor values.
var odd = []int{-1, -256, 256, 257, 65536, math.MinInt, math.MaxInt}

func op(kind, line, value int) api.Op {
	return api.Op{Kind: kind, Line: line, Value: value}
}

func load(line int) api.Op         { return op(api.OpLoad, line, 0) }
func store(line, value int) api.Op { return op(api.OpStore, line, value) }
func add(line, value int) api.Op   { return op(api.OpAdd, line, value) }
func evict(line int) api.Op        { return op(api.OpEvict, line, 0) }

func told(o api.Op, value int) api.Done {
	return api.Done{Op: o, Value: value}
}

func TestNew(t *testing.T) {
	for _, lines := range []int{0, 1, 2, 4, 5, 1000, 1 << 16} {
		got := flat.New(lines)
		if len(got) != lines || slices.ContainsFunc(got, func(x int) bool { return x != 0 }) {
			t.Errorf("New(%d) = %v", lines, got)
		}
	}
}

func TestNewOfFewerThanNone(t *testing.T) {
	for _, lines := range []int{-1, -2, -1000, math.MinInt} {
		if got := flat.New(lines); len(got) != 0 {
			t.Errorf("New(%d) = %v", lines, got)
		}
	}
}

// Beyond the limits nothing is promised; but it would be a pity to panic.
func TestNewOfFarTooManyDoesNotPanic(t *testing.T) {
	flat.New(math.MaxInt)
	flat.Play(math.MaxInt, []api.Done{told(load(0), 0)})
}

func TestNewIsNewEachTime(t *testing.T) {
	a, b := flat.New(3), flat.New(3)
	a[1] = 7
	if b[1] != 0 || flat.New(3)[1] != 0 {
		t.Errorf("two answers share memory")
	}
}

func TestDo(t *testing.T) {
	for _, x := range []struct {
		name string
		m    []int
		o    api.Op
		want []int
		told int
	}{
		{"load", []int{1, 200, 3}, load(1), []int{1, 200, 3}, 200},
		{"load of the first", []int{1, 200, 3}, load(0), []int{1, 200, 3}, 1},
		{"load of the last", []int{1, 200, 3}, load(2), []int{1, 200, 3}, 3},
		{"load of 0", []int{0}, load(0), []int{0}, 0},
		{"load with a value", []int{1, 200, 3}, op(api.OpLoad, 1, 255), []int{1, 200, 3}, 200},
		{"store", []int{1, 200, 3}, store(1, 9), []int{1, 9, 3}, 0},
		{"store of 0", []int{1, 200, 3}, store(0, 0), []int{0, 200, 3}, 0},
		{"store of 255", []int{1, 200, 3}, store(2, 255), []int{1, 200, 255}, 0},
		{"store of what it is", []int{1, 200, 3}, store(1, 200), []int{1, 200, 3}, 0},
		{"add", []int{1, 200, 3}, add(0, 5), []int{6, 200, 3}, 1},
		{"add of 0", []int{1, 200, 3}, add(1, 0), []int{1, 200, 3}, 200},
		{"add up to 255", []int{1, 200, 3}, add(1, 55), []int{1, 255, 3}, 200},
		{"add up to 256", []int{1, 200, 3}, add(1, 56), []int{1, 0, 3}, 200},
		{"200, and 100 more: 44", []int{1, 200, 3}, add(1, 100), []int{1, 44, 3}, 200},
		{"255, and 255 more", []int{255}, add(0, 255), []int{254}, 255},
		{"evict", []int{1, 200, 3}, evict(1), []int{1, 200, 3}, 0},
		{"evict with a value", []int{1, 200, 3}, op(api.OpEvict, 1, 255), []int{1, 200, 3}, 0},
	} {
		m, v, err := flat.Do(x.m, x.o)
		if !slices.Equal(m, x.want) || v != x.told || err != api.OK {
			t.Errorf("%s: %v, %d, %d, want %v, %d", x.name, m, v, err, x.want, x.told)
		}
	}
}

func TestAddIsTheLowestEightBits(t *testing.T) {
	for was := range 256 {
		for value := range 256 {
			m, v, err := flat.Do([]int{was}, add(0, value))
			if !slices.Equal(m, []int{(was + value) % 256}) || v != was || err != api.OK {
				t.Fatalf("%d, and %d more: %v, %d, %d", was, value, m, v, err)
			}
		}
	}
}

// Memory that no chip has may be handed in, too.
func TestDoOfOddMemory(t *testing.T) {
	for _, x := range []struct{ was, value, next int }{
		{-1, 0, 255},
		{-1, 1, 0},
		{-256, 3, 3},
		{256, 0, 0},
		{1000, 1, 233},
		{math.MaxInt, 0, 255},
		{math.MaxInt, 2, 1},
		{math.MinInt, 255, 255},
	} {
		if m, v, err := flat.Do([]int{x.was}, add(0, x.value)); !slices.Equal(m, []int{x.next}) || v != x.was || err != api.OK {
			t.Errorf("%d, and %d more: %v, %d, %d", x.was, x.value, m, v, err)
		}
		if m, v, err := flat.Do([]int{x.was}, load(0)); !slices.Equal(m, []int{x.was}) || v != x.was || err != api.OK {
			t.Errorf("load of %d: %v, %d, %d", x.was, m, v, err)
		}
		if m, v, err := flat.Do([]int{x.was}, store(0, x.value)); !slices.Equal(m, []int{x.value}) || v != 0 || err != api.OK {
			t.Errorf("store on %d: %v, %d, %d", x.was, m, v, err)
		}
		if m, v, err := flat.Do([]int{x.was}, evict(0)); !slices.Equal(m, []int{x.was}) || v != 0 || err != api.OK {
			t.Errorf("evict of %d: %v, %d, %d", x.was, m, v, err)
		}
	}
}

// refused fails, if Do has not that error, or tells anything beside it.
func refused(t *testing.T, m []int, o api.Op, want api.Errno) {
	t.Helper()
	if got, v, err := flat.Do(m, o); len(got) != 0 || v != 0 || err != want {
		t.Errorf("Do(%v, %v) = %v, %d, %d, want error %d", m, o, got, v, err, want)
	}
}

func TestDoOfNoSuchKind(t *testing.T) {
	for _, kind := range append([]int{0, 5, 6}, odd...) {
		refused(t, []int{1, 2}, op(kind, 1, 1), api.ErrKind)
		refused(t, nil, op(kind, 0, 0), api.ErrKind)
	}
}

func TestDoOfNoSuchLine(t *testing.T) {
	for _, kind := range kinds {
		for _, line := range append([]int{2, 3}, odd...) {
			refused(t, []int{1, 2}, op(kind, line, 0), api.ErrRange)
		}
		for _, line := range append([]int{0, 1}, odd...) {
			refused(t, nil, op(kind, line, 0), api.ErrRange)
			refused(t, []int{}, op(kind, line, 0), api.ErrRange)
		}
	}
}

// The range of Value is asked for of all kinds, as the chapter has it.
func TestDoOfNoSuchValue(t *testing.T) {
	for _, kind := range kinds {
		for _, value := range odd {
			refused(t, []int{1, 2}, op(kind, 1, value), api.ErrRange)
		}
	}
}

func TestWrong(t *testing.T) {
	for _, x := range []struct {
		lines int
		o     api.Op
		want  api.Errno
	}{
		{2, load(0), api.OK},
		{2, store(1, 255), api.OK},
		{2, add(1, 0), api.OK},
		{2, evict(1), api.OK},
		{2, op(0, 0, 0), api.ErrKind},
		{2, op(5, 2, 256), api.ErrKind},
		{2, load(2), api.ErrRange},
		{2, load(-1), api.ErrRange},
		{0, load(0), api.ErrRange},
		{-1, load(0), api.ErrRange},
		{math.MinInt, load(math.MinInt), api.ErrRange},
		{2, store(1, 256), api.ErrRange},
		{2, evict(2), api.ErrRange},
		{2, op(api.OpLoad, 0, -1), api.ErrRange},
	} {
		if got := flat.Wrong(x.lines, x.o); got != x.want {
			t.Errorf("Wrong(%d, %v) = %d, want %d", x.lines, x.o, got, x.want)
		}
	}
}

func TestKindIsAheadOfRange(t *testing.T) {
	for _, kind := range []int{0, 5, -1} {
		refused(t, []int{1, 2}, op(kind, 2, 0), api.ErrKind)
		refused(t, []int{1, 2}, op(kind, 0, 256), api.ErrKind)
		refused(t, []int{1, 2}, op(kind, -1, -1), api.ErrKind)
	}
}

func TestLinesInSpareRoomAreNone(t *testing.T) {
	room := []int{1, 2, 3, 4}
	for _, kind := range kinds {
		refused(t, room[:2], op(kind, 2, 7), api.ErrRange)
		refused(t, room[:0], op(kind, 0, 7), api.ErrRange)
	}
	if !slices.Equal(room, []int{1, 2, 3, 4}) {
		t.Errorf("the spare room is changed: %v", room)
	}
}

// scribble writes over all of m, its spare room too.
func scribble(m []int) {
	for i := range m[:cap(m)] {
		m[:cap(m)][i] = 77
	}
}

func TestMemoryHandedInIsOnlyRead(t *testing.T) {
	for _, kind := range append([]int{0}, kinds...) {
		room := []int{1, 2, 3, 4}
		got, _, _ := flat.Do(room[:2], op(kind, 1, 9))
		scribble(got)
		if !slices.Equal(room, []int{1, 2, 3, 4}) {
			t.Errorf("kind %d: what was handed in is changed: %v", kind, room)
		}
	}
}

func TestMemoryHandedInIsNotKept(t *testing.T) {
	for _, kind := range kinds {
		room := []int{1, 2, 3, 4}
		got, _, _ := flat.Do(room[:2], op(kind, 1, 9))
		before := slices.Clone(got)
		scribble(room)
		if !slices.Equal(got, before) {
			t.Errorf("kind %d: kept: %v", kind, got)
		}
	}
}

func TestPlay(t *testing.T) {
	for _, x := range []struct {
		name  string
		lines int
		l     []api.Done
		want  []int
		at    int
	}{
		{"nothing", 2, nil, []int{0, 0}, -1},
		{"an empty list", 2, []api.Done{}, []int{0, 0}, -1},
		{"nothing, of no lines", 0, nil, nil, -1},
		{"nothing, of fewer than none", -1, nil, nil, -1},
		{"all kinds", 2, []api.Done{told(store(0, 5), 0), told(load(0), 5), told(add(0, 2), 5), told(evict(0), 0), told(load(0), 7), told(load(1), 0)}, []int{7, 0}, -1},
		{"an add that wraps round", 1, []api.Done{told(store(0, 200), 0), told(add(0, 100), 200), told(load(0), 44)}, []int{44}, -1},
		{"a load that tells another value", 1, []api.Done{told(load(0), 0), told(load(0), 1)}, []int{0}, 1},
		{"a store that tells its value", 1, []api.Done{told(store(0, 5), 5)}, []int{0}, 0},
		{"an add that tells the sum", 1, []api.Done{told(store(0, 5), 0), told(add(0, 2), 7)}, []int{5}, 1},
		{"an evict that tells what was there", 1, []api.Done{told(store(0, 5), 0), told(evict(0), 5)}, []int{5}, 1},
		{"a value below 0", 1, []api.Done{told(load(0), -1)}, []int{0}, 0},
		{"a value of other upper bits", 1, []api.Done{told(load(0), 256)}, []int{0}, 0},
		{"no such kind", 1, []api.Done{told(store(0, 5), 0), told(op(0, 0, 0), 0)}, []int{5}, 1},
		{"no such line", 2, []api.Done{told(load(2), 0)}, []int{0, 0}, 0},
		{"no lines", 0, []api.Done{told(evict(0), 0)}, nil, 0},
		{"fewer lines than none", math.MinInt, []api.Done{told(load(0), 0)}, nil, 0},
		{"no such value", 1, []api.Done{told(store(0, 3), 0), told(store(0, 256), 0)}, []int{3}, 1},
		{"the first one of two", 1, []api.Done{told(store(0, 3), 0), told(load(0), 4), told(store(0, 9), 0), told(load(0), 8)}, []int{3}, 1},
		{"the last one", 1, []api.Done{told(store(0, 3), 0), told(store(0, 4), 0), told(load(0), 3)}, []int{4}, 2},
	} {
		if m, at := flat.Play(x.lines, x.l); !slices.Equal(m, x.want) || at != x.at {
			t.Errorf("%s: %v, %d, want %v, %d", x.name, m, at, x.want, x.at)
		}
	}
}

// Memory is one: who did it is all the same.
func TestPlayDoesNotAskForTheCore(t *testing.T) {
	for _, core := range []int{0, 1, 4, -1, math.MinInt, math.MaxInt} {
		l := []api.Done{{Core: 2, Op: add(0, 1)}, {Core: core, Op: add(0, 1), Value: 1}, {Core: core, Op: load(0), Value: 2}}
		if m, at := flat.Play(1, l); !slices.Equal(m, []int{2}) || at != -1 {
			t.Errorf("core %d: %v, %d", core, m, at)
		}
	}
}

// many are operations of all kinds on so many lines, each with what Do tells of it; and memory behind them.
func many(n, lines int) ([]api.Done, []int) {
	m := flat.New(lines)
	l := make([]api.Done, n)
	for i := range l {
		o := op(kinds[i*7/3%4], i*5%lines, i*31%256)
		next, v, _ := flat.Do(m, o)
		m, l[i] = next, told(o, v)
	}
	return l, m
}

func TestPlayGoesAsDoDoes(t *testing.T) {
	for lines := 1; lines <= 5; lines++ {
		l, want := many(600, lines)
		if m, at := flat.Play(lines, l); !slices.Equal(m, want) || at != -1 {
			t.Fatalf("%d lines: %v, %d, want %v", lines, m, at, want)
		}
		for i := range l {
			_, ahead := many(i, lines)
			l[i].Value++
			if m, at := flat.Play(lines, l); !slices.Equal(m, ahead) || at != i {
				t.Fatalf("%d lines, another value at %d: %v, %d, want %v", lines, i, m, at, ahead)
			}
			l[i].Value--
		}
	}
}

func TestListHandedInIsOnlyRead(t *testing.T) {
	room := []api.Done{told(store(0, 5), 0), told(load(0), 5), told(load(0), 6)}
	before := slices.Clone(room)
	if m, at := flat.Play(1, room[:2]); !slices.Equal(m, []int{5}) || at != -1 {
		t.Errorf("what stands in the spare room is played: %v, %d", m, at)
	}
	if !slices.Equal(room, before) {
		t.Errorf("what was handed in is changed: %v", room)
	}
}

func TestPlayIsNewEachTime(t *testing.T) {
	l := []api.Done{told(store(0, 5), 0)}
	a, _ := flat.Play(2, l)
	scribble(a)
	if b, at := flat.Play(2, l); !slices.Equal(b, []int{5, 0}) || at != -1 {
		t.Errorf("the second time: %v, %d", b, at)
	}
}
