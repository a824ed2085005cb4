package home_test

import (
	"testing"

	"sharedhearth/api"
	"sharedhearth/core"
	"sharedhearth/flat"
	"sharedhearth/home"
)

// world is cores with their home, what is on the way between them, and what is done.
type world struct {
	cores []api.Core
	home  []api.Entry
	way   []api.Msg
	done  []api.Done
	seed  uint32
}

func newWorld(cores, lines int, seed uint32) *world {
	w := &world{home: home.New(cores, lines), seed: seed}
	for range cores {
		w.cores = append(w.cores, core.New(lines))
	}
	return w
}

// pick is a number below n, the same ones in turn for each seed.
func (w *world) pick(n int) int {
	w.seed = w.seed*1664525 + 1013904223
	return int(w.seed>>16) % n
}

// send loses what is too much, as nets do.
func (w *world) send(l []api.Msg) {
	for _, m := range l {
		if len(w.way) < api.MaxFrames {
			w.way = append(w.way, m)
		}
	}
}

func (w *world) begin(n int, o api.Op) bool {
	c, said, done, err := core.Begin(w.cores[n], n, len(w.cores), o)
	if err != api.OK {
		return false
	}
	w.cores[n], w.done = c, append(w.done, done...)
	w.send(said)
	return true
}

func (w *world) arrive(m api.Msg) {
	if m.To == len(w.cores) {
		l, said := home.Hear(w.home, m.To, m)
		w.home = l
		w.send(said)
		return
	}
	c, said, done := core.Hear(w.cores[m.To], m.To, len(w.cores), m)
	w.cores[m.To], w.done = c, append(w.done, done...)
	w.send(said)
}

// take takes message n off the way.
func (w *world) take(n int) api.Msg {
	m := w.way[n]
	w.way = append(append([]api.Msg(nil), w.way[:n]...), w.way[n+1:]...)
	return m
}

func (w *world) timer(n int) {
	if n == len(w.cores) {
		w.send(home.Timer(w.home, n))
		return
	}
	w.send(core.Timer(w.cores[n], n, len(w.cores)))
}

// step is one of all that may come to be: an operation, a message that comes, is lost, or is there twice, or asking again.
func (w *world) step() {
	kind := w.pick(8)
	switch {
	case kind < 2:
		w.begin(w.pick(len(w.cores)), api.Op{Kind: 1 + w.pick(4), Line: w.pick(len(w.home)), Value: w.pick(256)})
	case kind == 7 || len(w.way) == 0:
		w.timer(w.pick(len(w.cores) + 1))
	case kind < 6:
		w.arrive(w.take(w.pick(len(w.way))))
	default:
		m := w.take(w.pick(len(w.way)))
		if w.pick(2) == 0 {
			w.send([]api.Msg{m, m})
		}
	}
}

// alone is whether nobody has a line that another one has alone.
func (w *world) alone() bool {
	for at := range w.home {
		has, only := 0, 0
		for _, c := range w.cores {
			switch c.Lines[at].State {
			case api.Alone:
				has, only = has+1, only+1
			case api.Copy:
				has++
			}
		}
		if only > 0 && has > 1 {
			return false
		}
	}
	return true
}

// settle has all that is asked done, if nothing is lost any more.
func (w *world) settle() bool {
	for range 400 {
		for range len(w.way) {
			w.arrive(w.take(0))
		}
		if w.calm() {
			return true
		}
		for n := range len(w.cores) + 1 {
			w.timer(n)
		}
	}
	return false
}

func (w *world) calm() bool {
	for _, e := range w.home {
		if e.Phase != api.Idle {
			return false
		}
	}
	for _, c := range w.cores {
		if c.Wait.Kind != 0 {
			return false
		}
	}
	return len(w.way) == 0
}

// As if memory were one: whatever is lost, late, or there twice.
func TestCoresAndHomeAreOneMemory(t *testing.T) {
	for seed := range uint32(400) {
		w := newWorld(1+int(seed%4), 1+int(seed/4%2), seed)
		for i := range 400 {
			if w.step(); !w.alone() {
				t.Fatalf("seed %d, step %d: not alone: %v", seed, i, w)
			}
		}
		if !w.settle() {
			t.Fatalf("seed %d: all that is asked is not done: %v", seed, w)
		}
		if len(w.done) < 10 {
			t.Errorf("seed %d: only %d operations are done", seed, len(w.done))
		}
		memory, at := flat.Play(len(w.home), w.done)
		if at != -1 {
			t.Fatalf("seed %d: operation %d of %v", seed, at, w.done)
		}
		w.allComesHome(t, memory)
	}
}

// allComesHome has each core give all back: then the home's values are memory's.
func (w *world) allComesHome(t *testing.T, memory []int) {
	for n := range w.cores {
		for at := range w.home {
			if !w.begin(n, api.Op{Kind: api.OpEvict, Line: at}) || !w.settle() {
				t.Fatalf("core %d can't give line %d back: %v", n, at, w)
			}
		}
	}
	for at, e := range w.home {
		if e.Value != memory[at] || e.Owner >= 0 {
			t.Errorf("line %d: %v, not %d", at, e, memory[at])
		}
	}
}
