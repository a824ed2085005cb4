package chip

import (
	"sharedhearth/api"
	"sharedhearth/core"
	"sharedhearth/frame"
	"sharedhearth/home"
	"sharedhearth/net"
)

// act is what one step does with a chip: that as it is by now, which must be nobody else's, and what is done. Behind an error the chip is not to be used any more.
type act struct {
	chip api.Chip
	done []api.Done
}

func (a *act) step(s api.Step) api.Errno {
	switch s.Kind {
	case api.StepOp:
		return a.begin(s.Node, s.Op)
	case api.StepGo:
		return a.arrive(s.N)
	case api.StepDrop:
		_, err := a.take(s.N)
		return err
	case api.StepTwice:
		return a.twice(s.N)
	case api.StepSpoil:
		return a.spoil(s.N, s.Bit)
	case api.StepTimer:
		return a.timer(s.Node)
	}
	return api.ErrKind
}

func (a *act) begin(node int, o api.Op) api.Errno {
	if !a.hasCore(node) {
		return api.ErrNone
	}
	c, said, done, err := core.Begin(a.chip.Cores[node], node, a.homeNode(), o)
	if err != api.OK {
		return err
	}
	a.chip.Cores[node] = c
	a.done = done
	a.send(said)
	return api.OK
}

// arrive takes the frame off the way first: what is said to it has its room.
func (a *act) arrive(n int) api.Errno {
	b, err := a.take(n)
	if err != api.OK {
		return err
	}
	// A frame with a fault is as lost: that is no error of the step.
	if m, fault := frame.Parse(Config(a.chip), b); fault == api.OK {
		a.hear(m)
	}
	return api.OK
}

func (a *act) take(n int) ([]byte, api.Errno) {
	rest, b, err := net.Take(a.chip.Frames, n)
	a.chip.Frames = rest
	return b, err
}

// hear needs a message that is not wrong: there is a node To then.
func (a *act) hear(m api.Msg) {
	var said []api.Msg
	if m.To == a.homeNode() {
		a.chip.Home, said = home.Hear(a.chip.Home, m.To, m)
	} else {
		a.chip.Cores[m.To], said, a.done = core.Hear(a.chip.Cores[m.To], m.To, a.homeNode(), m)
	}
	a.send(said)
}

func (a *act) twice(n int) api.Errno {
	l, err := net.Twice(a.chip.Frames, n)
	a.chip.Frames = l
	return err
}

// spoil does not touch what is spoilt already: with more bits turned it might pass for a frame again.
func (a *act) spoil(n, bit int) api.Errno {
	if n < 0 || n >= len(a.chip.Frames) {
		return api.ErrNone
	}
	if _, fault := frame.Parse(Config(a.chip), a.chip.Frames[n]); fault != api.OK {
		return api.ErrFit
	}
	l, err := net.Spoil(a.chip.Frames, n, bit)
	a.chip.Frames = l
	return err
}

func (a *act) timer(node int) api.Errno {
	switch {
	case a.hasCore(node):
		a.send(core.Timer(a.chip.Cores[node], node, a.homeNode()))
	case node == a.homeNode():
		a.send(home.Timer(a.chip.Home, node))
	default:
		return api.ErrNone
	}
	return api.OK
}

func (a *act) send(said []api.Msg) {
	for _, m := range said {
		a.chip.Frames = net.Send(a.chip.Frames, frame.Bytes(m))
	}
}

func (a *act) hasCore(node int) bool {
	return node >= 0 && node < len(a.chip.Cores)
}

// homeNode is the home's number: the one behind the cores'.
func (a *act) homeNode() int {
	return len(a.chip.Cores)
}
