package check_test

import (
	"math"
	"reflect"
	"slices"
	"testing"

	"sharedhearth/api"
	"sharedhearth/check"
	"sharedhearth/chip"
	"sharedhearth/frame"
)

func made(t *testing.T, cores, lines int) api.Chip {
	t.Helper()
	x, err := chip.New(api.Config{Cores: cores, Lines: lines})
	if err != api.OK {
		t.Fatalf("New of %d cores, %d lines: error %d", cores, lines, err)
	}
	return x
}

// with is a new chip of three cores and two lines, changed.
func with(t *testing.T, change func(x api.Chip)) api.Chip {
	t.Helper()
	x := made(t, 3, 2)
	change(x)
	return x
}

// tells is that a call answers want.
func tells[T comparable](t *testing.T, name string, got, want T) {
	t.Helper()
	if got != want {
		t.Errorf("%s: %v, want %v", name, got, want)
	}
}

func TestNewChipIsAsItMustBe(t *testing.T) {
	for cores := 1; cores <= api.MaxCores; cores++ {
		for lines := 1; lines <= api.MaxLines; lines++ {
			x := made(t, cores, lines)
			if !check.Alone(x) || !check.Same(x) || !check.Known(x) || !check.Calm(x) || check.Wrong(x) != api.OK || check.Spoilt(x) != 0 {
				t.Errorf("%d cores, %d lines: not as it must be", cores, lines)
			}
			for at := range lines {
				tells(t, "Value", check.Value(x, at), 0)
			}
		}
	}
}

// All states of two of three cores: a line that one has alone no other one may have.
func TestAlone(t *testing.T) {
	for first := range 3 {
		for second := range 3 {
			for a := api.Nothing; a <= api.Leaving+1; a++ {
				for b := api.Nothing; b <= api.Leaving+1; b++ {
					x := with(t, func(x api.Chip) {
						x.Cores[first].Lines[1].State = a
						x.Cores[second].Lines[1].State = b
					})
					bad := a == api.Alone && (b == api.Alone || b == api.Copy) || a == api.Copy && b == api.Alone
					if got := check.Alone(x); got == (bad && first != second) {
						t.Errorf("cores %d, %d in states %d, %d: %v", first, second, a, b, got)
					}
				}
			}
		}
	}
}

func TestAloneLineByLine(t *testing.T) {
	x := with(t, func(x api.Chip) {
		x.Cores[0].Lines[0].State = api.Alone
		x.Cores[1].Lines[1].State = api.Alone
	})
	tells(t, "unlike lines", check.Alone(x), true)
	x.Cores[2].Lines[1].State = api.Copy
	tells(t, "a copy of the second line", check.Alone(x), false)
	x.Cores[1].Lines[1].State = api.Copy
	tells(t, "two copies", check.Alone(x), true)
}

func TestValue(t *testing.T) {
	fetching := func(x api.Chip) {
		x.Home[1].Phase, x.Home[1].Owner, x.Home[1].Turn = api.Fetching, 2, 5
		x.Cores[2].Lines[1] = api.Line{Gave: 5, Given: 80}
	}
	for _, c := range []struct {
		name   string
		want   int
		change func(x api.Chip)
	}{
		{"nobody has it", 9, func(api.Chip) {}},
		{"a copy", 9, func(x api.Chip) { x.Cores[0].Lines[1] = api.Line{State: api.Copy, Value: 4, Serial: 7} }},
		{"nothing", 9, func(x api.Chip) { x.Cores[0].Lines[1] = api.Line{Value: 4, Serial: 7} }},
		{"of no such state", 9, func(x api.Chip) { x.Cores[0].Lines[1] = api.Line{State: 4, Value: 4, Serial: 7} }},
		{"alone", 4, func(x api.Chip) { x.Cores[0].Lines[1] = api.Line{State: api.Alone, Value: 4, Serial: 3} }},
		{"alone, of a serial that was taken up", 4, func(x api.Chip) {
			x.Cores[0].Lines[1] = api.Line{State: api.Alone, Value: 4, Serial: 3}
			x.Home[1].Last[0] = 3
		}},
		{"leaving", 4, func(x api.Chip) {
			x.Cores[1].Lines[1] = api.Line{State: api.Leaving, Value: 4, Serial: 3}
			x.Home[1].Last[1] = 2
		}},
		{"leaving, and taken back", 9, func(x api.Chip) {
			x.Cores[1].Lines[1] = api.Line{State: api.Leaving, Value: 4, Serial: 3}
			x.Home[1].Last[1] = 3
		}},
		{"leaving, and the next one is taken up", 9, func(x api.Chip) {
			x.Cores[1].Lines[1] = api.Line{State: api.Leaving, Value: 4, Serial: 3}
			x.Home[1].Last[1] = 4
		}},
		{"leaving; the Last of others means nothing", 4, func(x api.Chip) {
			x.Cores[1].Lines[1] = api.Line{State: api.Leaving, Value: 4, Serial: 3}
			x.Home[1].Last[0], x.Home[1].Last[2], x.Home[0].Last[1] = 9, 9, 9
		}},
		{"the first core of two", 6, func(x api.Chip) {
			x.Cores[1].Lines[1] = api.Line{State: api.Leaving, Value: 6, Serial: 1}
			x.Cores[2].Lines[1] = api.Line{State: api.Alone, Value: 4}
		}},
		{"the first core of two, again", 4, func(x api.Chip) {
			x.Cores[1].Lines[1] = api.Line{State: api.Alone, Value: 4}
			x.Cores[2].Lines[1] = api.Line{State: api.Leaving, Value: 6, Serial: 1}
		}},
		{"the first one is taken back, another one has it alone", 4, func(x api.Chip) {
			x.Cores[1].Lines[1] = api.Line{State: api.Leaving, Value: 6, Serial: 1}
			x.Home[1].Last[1] = 1
			x.Cores[2].Lines[1] = api.Line{State: api.Alone, Value: 4}
		}},
		{"given on the way", 80, fetching},
		{"given, and kept as a copy", 80, func(x api.Chip) {
			fetching(x)
			x.Cores[2].Lines[1].State, x.Cores[2].Lines[1].Value = api.Copy, 80
		}},
		{"given in an older turn", 9, func(x api.Chip) { fetching(x); x.Cores[2].Lines[1].Gave = 4 }},
		{"given in a later turn", 9, func(x api.Chip) { fetching(x); x.Cores[2].Lines[1].Gave = 6 }},
		{"given, and it is there", 9, func(x api.Chip) { fetching(x); x.Home[1].Phase = api.Granting }},
		{"given, and others are cleared", 9, func(x api.Chip) { fetching(x); x.Home[1].Phase = api.Clearing }},
		{"given, and the turn is over", 9, func(x api.Chip) { fetching(x); x.Home[1].Phase = api.Idle }},
		{"given by another one", 9, func(x api.Chip) { fetching(x); x.Home[1].Owner = 1 }},
		{"given by nobody", 9, func(x api.Chip) { fetching(x); x.Home[1].Owner = -1 }},
		{"fetching, but not given yet", 4, func(x api.Chip) {
			fetching(x)
			x.Cores[2].Lines[1] = api.Line{State: api.Alone, Value: 4, Gave: 3, Given: 80}
		}},
		{"fetching, and another one has it alone", 4, func(x api.Chip) {
			fetching(x)
			x.Cores[0].Lines[1] = api.Line{State: api.Alone, Value: 4}
		}},
		{"the other line", 9, func(x api.Chip) {
			x.Cores[0].Lines[0] = api.Line{State: api.Alone, Value: 4}
			x.Home[0].Value = 5
		}},
	} {
		x := made(t, 3, 2)
		x.Home[1].Value = 9
		c.change(x)
		tells(t, c.name, check.Value(x, 1), c.want)
	}
}

func TestValueOfNoLine(t *testing.T) {
	x := with(t, func(x api.Chip) {
		x.Home[0].Value, x.Home[1].Value = 7, 8
		x.Cores[0].Lines[1] = api.Line{State: api.Alone, Value: 9}
	})
	for _, at := range []int{math.MinInt, -1, 2, 3, math.MaxInt32, math.MaxInt} {
		tells(t, "no line", check.Value(x, at), 0)
	}
}

func TestSame(t *testing.T) {
	x := with(t, func(x api.Chip) {
		x.Home[1].Value = 5
		x.Cores[0].Lines[1] = api.Line{State: api.Copy, Value: 5}
		x.Cores[2].Lines[1] = api.Line{State: api.Copy, Value: 5}
	})
	tells(t, "two copies", check.Same(x), true)
	x.Cores[2].Lines[1].Value = 6
	tells(t, "a stale copy", check.Same(x), false)
	for _, state := range []int{api.Nothing, api.Leaving, 4} {
		x.Cores[2].Lines[1].State = state
		tells(t, "no copy", check.Same(x), true)
	}
	// Who has it alone may have it otherwise than the home; but not than those that have copies.
	x.Cores[2].Lines[1].State = api.Alone
	tells(t, "a copy beside one alone", check.Same(x), false)
	x.Cores[0].Lines[1].Value = 6
	tells(t, "a copy of what one alone has", check.Same(x), true)
	x.Cores[0].Lines[1] = api.Line{}
	tells(t, "one alone", check.Same(x), true)
}

// A copy of what is on its way home is not stale, though the home has it otherwise.
func TestSameOfWhatIsOnTheWay(t *testing.T) {
	x := with(t, func(x api.Chip) {
		x.Home[0].Phase, x.Home[0].Owner, x.Home[0].Turn = api.Fetching, 1, 2
		x.Cores[1].Lines[0] = api.Line{State: api.Copy, Value: 3, Seen: 2, Gave: 2, Given: 3}
	})
	tells(t, "a copy of what was given", check.Same(x), true)
	x.Cores[1].Lines[0].Value = 0
	tells(t, "a copy of what is at home", check.Same(x), false)
}

func TestKnown(t *testing.T) {
	granting := func(x api.Chip) {
		x.Home[1].Phase, x.Home[1].For, x.Home[1].Turn = api.Granting, 2, 4
		x.Cores[2].Lines[1].Seen = 4
	}
	for _, c := range []struct {
		name        string
		copy, alone bool // whether it is known of core 2
		change      func(x api.Chip)
	}{
		{"nothing", false, false, func(api.Chip) {}},
		{"owner", true, true, func(x api.Chip) { x.Home[1].Owner = 2 }},
		{"owner of the other line", false, false, func(x api.Chip) { x.Home[0].Owner = 2 }},
		{"another owner", false, false, func(x api.Chip) { x.Home[1].Owner = 1 }},
		{"sharer", true, false, func(x api.Chip) { x.Home[1].Sharers = 1 << 2 }},
		{"sharer of the other line", false, false, func(x api.Chip) { x.Home[0].Sharers = 1 << 2 }},
		{"other sharers", false, false, func(x api.Chip) { x.Home[1].Sharers = 1<<0 | 1<<1 | 1<<3 }},
		{"all sharers, another owner", true, false, func(x api.Chip) { x.Home[1].Sharers, x.Home[1].Owner = 7, 0 }},
		{"granting", true, true, granting},
		{"granting alone", true, true, func(x api.Chip) { granting(x); x.Home[1].Alone = true }},
		{"granting, not seen yet", false, false, func(x api.Chip) { granting(x); x.Cores[2].Lines[1].Seen = 3 }},
		{"granting, seen of a later turn", false, false, func(x api.Chip) { granting(x); x.Cores[2].Lines[1].Seen = 5 }},
		{"granting to another one", false, false, func(x api.Chip) { granting(x); x.Home[1].For = 1 }},
		{"fetching for it", false, false, func(x api.Chip) { granting(x); x.Home[1].Phase = api.Fetching }},
		{"clearing for it", false, false, func(x api.Chip) { granting(x); x.Home[1].Phase = api.Clearing }},
		{"idle", false, false, func(x api.Chip) { granting(x); x.Home[1].Phase = api.Idle }},
	} {
		x := with(t, c.change)
		for state := api.Nothing; state <= api.Leaving+1; state++ {
			x.Cores[2].Lines[1].State = state
			want := true
			switch state {
			case api.Copy:
				want = c.copy
			case api.Alone:
				want = c.alone
			}
			if got := check.Known(x); got != want {
				t.Errorf("%s, state %d: %v", c.name, state, got)
			}
		}
	}
}

// Each core must be known, whichever it is.
func TestKnownOfEachCore(t *testing.T) {
	for core := range 3 {
		x := with(t, func(x api.Chip) {
			for i := range x.Cores {
				x.Cores[i].Lines[0].State = api.Copy
			}
			x.Home[0].Sharers = 7 &^ (1 << core)
		})
		tells(t, "one is not", check.Known(x), false)
		x.Home[0].Owner = core
		tells(t, "all are", check.Known(x), true)
	}
}

func TestCalm(t *testing.T) {
	for phase := -1; phase <= api.Granting+1; phase++ {
		x := with(t, func(x api.Chip) { x.Home[1].Phase = phase })
		tells(t, "phase", check.Calm(x), phase == api.Idle)
		tells(t, "phase, settled", check.Settled(x), phase == api.Idle)
	}
	for kind := range api.OpEvict + 1 {
		x := with(t, func(x api.Chip) { x.Cores[2].Wait.Kind = kind })
		tells(t, "what waits", check.Calm(x), kind == 0)
		tells(t, "what waits, settled", check.Settled(x), kind == 0)
	}
	for _, frames := range [][][]byte{nil, {}, {nil}, {{}}, {make([]byte, api.FrameSize)}} {
		x := made(t, 3, 2)
		x.Frames = frames
		tells(t, "on the way", check.Calm(x), len(frames) == 0)
		tells(t, "on the way, settled", check.Settled(x), true)
	}
	// Calm is no more than that: cores may have lines, and what waited once means nothing.
	x := with(t, func(x api.Chip) {
		x.Cores[0].Wait = api.Op{Line: 1, Value: 7}
		x.Cores[1].Lines[0].State, x.Cores[1].Lines[0].Want = api.Alone, api.MsgGetX
		x.Home[1].Owner, x.Home[1].Turn, x.Home[1].Need = 2, 5, 1
	})
	tells(t, "all else", check.Calm(x), true)
	tells(t, "all else, settled", check.Settled(x), true)
}

// faults are ways in which a chip isn't as it must be, in the order in which they are told.
var faults = []struct {
	err  api.Errno
	make func(x *api.Chip)
}{
	{api.ErrMany, func(x *api.Chip) {
		for len(x.Frames) <= api.MaxFrames {
			x.Frames = append(x.Frames, make([]byte, api.FrameSize))
		}
	}},
	{api.ErrFit, func(x *api.Chip) {
		// Both are known: one as Owner, and the other one as the one to which it is granted.
		x.Cores[0].Lines[0].State, x.Home[0].Owner = api.Alone, 0
		x.Cores[1].Lines[0].State, x.Home[0].Phase, x.Home[0].For = api.Alone, api.Granting, 1
	}},
	{api.ErrForm, func(x *api.Chip) { // stale, but known
		x.Cores[2].Lines[1] = api.Line{State: api.Copy, Value: 1}
		x.Home[1].Sharers = 1 << 2
	}},
	{api.ErrForm, func(x *api.Chip) { // not stale, but not known
		x.Cores[1].Lines[1].State = api.Copy
	}},
	{api.ErrRange, func(x *api.Chip) { x.Frames = append(x.Frames, make([]byte, api.FrameSize-1)) }},
}

// All sets of faults: the first one is told.
func TestWrong(t *testing.T) {
	for set := range 1 << len(faults) {
		x, want := made(t, 3, 2), api.OK
		for i, f := range faults {
			if set>>i&1 == 0 {
				continue
			}
			f.make(&x)
			if want == api.OK {
				want = f.err
			}
		}
		if got := check.Wrong(x); got != want {
			t.Errorf("faults %05b: %d, want %d", set, got, want)
		}
	}
}

func TestWrongOfFrames(t *testing.T) {
	for size := range 2 * api.FrameSize {
		for at := range 3 {
			x := made(t, 3, 2)
			for i := range 3 {
				x.Frames = append(x.Frames, make([]byte, api.FrameSize))
				if i == at {
					x.Frames[i] = make([]byte, size)
				}
			}
			want := api.ErrRange
			if size == api.FrameSize {
				want = api.OK
			}
			tells(t, "a frame's size", check.Wrong(x), want)
		}
	}
	for n := range api.MaxFrames + 3 {
		x := made(t, 3, 2)
		for range n {
			x.Frames = append(x.Frames, make([]byte, api.FrameSize))
		}
		want := api.OK
		if n > api.MaxFrames {
			want = api.ErrMany
		}
		tells(t, "how many frames", check.Wrong(x), want)
	}
}

func TestSpoilt(t *testing.T) {
	good := frame.Bytes(api.Msg{Kind: api.MsgGetS, From: 2, To: 3, Line: 1, Serial: 1})
	for _, c := range []struct {
		name string
		b    []byte
		want int
	}{
		{"a frame", good, 0},
		{"the home's", frame.Bytes(api.Msg{Kind: api.MsgInv, From: 3, To: 0}), 0},
		{"nothing", nil, 1},
		{"too short", good[:11], 1},
		{"too long", append(slices.Clip(good), 0), 1},
		{"of no such kind", frame.Bytes(api.Msg{Kind: 12, From: 2, To: 3}), 1},
		{"of no such core", frame.Bytes(api.Msg{Kind: api.MsgGetS, From: 4, To: 3}), 1},
		{"of no such line", frame.Bytes(api.Msg{Kind: api.MsgGetS, From: 2, To: 3, Line: 2}), 1},
		{"from core to core", frame.Bytes(api.Msg{Kind: api.MsgGetS, From: 2, To: 1}), 1},
		{"from home to home", frame.Bytes(api.Msg{Kind: api.MsgGetS, From: 3, To: 3}), 1},
	} {
		x := made(t, 3, 2)
		x.Frames = [][]byte{good, c.b, frame.Turn(good, 5), good, c.b}
		tells(t, c.name, check.Spoilt(x), 2*c.want+1)
	}
	for bit := range 8 * api.FrameSize {
		x := made(t, 3, 2)
		x.Frames = [][]byte{good, frame.Turn(good, bit)}
		tells(t, "one bit turned", check.Spoilt(x), 1)
	}
}

// answers is all that the package tells of x.
func answers(x api.Chip) []int {
	flag := func(is bool) int {
		if is {
			return 1
		}
		return 0
	}
	out := []int{flag(check.Alone(x)), flag(check.Same(x)), flag(check.Known(x)), flag(check.Calm(x)), flag(check.Settled(x)), int(check.Wrong(x)), check.Spoilt(x)}
	for at := -1; at <= len(x.Home); at++ {
		out = append(out, check.Value(x, at))
	}
	return out
}

// roomy is a copy of x with spare room behind all of its lists, full of what would be wrong if it were looked at.
func roomy(x api.Chip) api.Chip {
	x = chip.Own(x)
	odd := api.Line{State: api.Alone, Value: 66, Serial: 66}
	for i, c := range x.Cores {
		x.Cores[i].Lines = spare(c.Lines, odd)
	}
	for i, e := range x.Home {
		x.Home[i].Last = spare(e.Last, 66)
	}
	for i, b := range x.Frames {
		x.Frames[i] = spare(b, 66)
	}
	x.Cores = spare(x.Cores, api.Core{Lines: []api.Line{odd, odd, odd, odd}, Wait: api.Op{Kind: 1}})
	x.Home = spare(x.Home, api.Entry{Phase: api.Clearing, Last: []int{66}})
	x.Frames = spare(x.Frames, []byte{66})
	return x
}

func spare[T any](l []T, v T) []T {
	return append(slices.Clip(l), v, v)[:len(l)]
}

func all[T any](l []T) []T { return l[:cap(l)] }

// whole is a copy of x with its spare room.
func whole(x api.Chip) api.Chip {
	x.Cores, x.Home, x.Frames = slices.Clone(all(x.Cores)), slices.Clone(all(x.Home)), slices.Clone(all(x.Frames))
	for i, c := range x.Cores {
		x.Cores[i].Lines = slices.Clone(all(c.Lines))
	}
	for i, e := range x.Home {
		x.Home[i].Last = slices.Clone(all(e.Last))
	}
	for i, b := range x.Frames {
		x.Frames[i] = slices.Clone(all(b))
	}
	return x
}

// What is handed in is only read, its spare room is not looked at, and the same is told of it each time.
func TestChipHandedInIsOnlyRead(t *testing.T) {
	for _, x := range someChips(t) {
		want := answers(x)
		in := roomy(x)
		before := whole(in)
		if got := answers(in); !slices.Equal(got, want) {
			t.Fatalf("%v, and with spare room %v: %v", want, got, x)
		}
		if !reflect.DeepEqual(whole(in), before) {
			t.Fatalf("what was handed in is changed: %v", in)
		}
		if got := answers(x); !slices.Equal(got, want) {
			t.Fatalf("%v, then %v: %v", want, got, x)
		}
	}
}

// nil and a list without entries are the same.
func TestNoEntries(t *testing.T) {
	none := api.Chip{Cores: []api.Core{}, Home: []api.Entry{}, Frames: [][]byte{}}
	for _, x := range []api.Chip{{}, none, {Cores: []api.Core{{}}}, {Cores: []api.Core{{Lines: []api.Line{}}}}} {
		if got := answers(x); !slices.Equal(got, []int{1, 1, 1, 1, 1, 0, 0, 0, 0}) {
			t.Errorf("%v: %v", x, got)
		}
	}
	x, y := made(t, 2, 1), made(t, 2, 1)
	x.Frames, y.Frames = nil, [][]byte{}
	if !slices.Equal(answers(x), answers(y)) {
		t.Error("an empty list of frames is not as nil")
	}
}

// Chips that steps do not make: of lists of unlike lengths, and of numbers from anywhere.
func TestOddChipsDoNotPanic(t *testing.T) {
	numbers := []int{math.MinInt, -65, -1, 0, 1, 2, 63, 64, 70, math.MaxInt32, math.MaxInt}
	for _, n := range numbers {
		for state := -1; state <= 4; state++ {
			line := api.Line{State: state, Value: n, Serial: n, Seen: n, Gave: n, Given: n}
			for phase := -1; phase <= 4; phase++ {
				e := api.Entry{Owner: n, Sharers: n, Phase: phase, For: n, Turn: n}
				for _, x := range []api.Chip{
					{Cores: []api.Core{{Lines: []api.Line{line}}}},
					{Cores: []api.Core{{}, {Lines: []api.Line{line, line}}}, Home: []api.Entry{e}},
					{Cores: []api.Core{{Lines: []api.Line{line}}, {}}, Home: []api.Entry{e, e}, Frames: [][]byte{nil, {1}}},
					{Home: []api.Entry{e}},
					{Cores: slices.Repeat([]api.Core{{Lines: []api.Line{line}}}, 70), Home: []api.Entry{e}},
				} {
					answers(x)
					for _, at := range numbers {
						check.Value(x, at)
					}
				}
			}
		}
	}
}

// A core beyond the bits of Sharers is not among them, whatever they are.
func TestKnownBeyondTheBits(t *testing.T) {
	x := api.Chip{Cores: make([]api.Core, 70), Home: []api.Entry{{Owner: -1, Sharers: -1}}}
	for i := range x.Cores {
		x.Cores[i].Lines = make([]api.Line, 1)
	}
	x.Cores[63].Lines[0].State = api.Copy
	tells(t, "the last bit", check.Known(x), true)
	x.Cores[64].Lines[0].State = api.Copy
	tells(t, "beyond it", check.Known(x), false)
}

// A line that the home has not is known to nobody, and is 0 there.
func TestLineThatIsNotAtHome(t *testing.T) {
	x := api.Chip{Cores: []api.Core{{Lines: []api.Line{{State: api.Copy}}}}}
	tells(t, "Same", check.Same(x), true)
	tells(t, "Known", check.Known(x), false)
	x.Cores[0].Lines[0].Value = 1
	tells(t, "Same of 1", check.Same(x), false)
	x.Cores[0].Lines[0].State = api.Alone
	tells(t, "Value", check.Value(x, 0), 1)
	tells(t, "Known alone", check.Known(x), false)
}
