package script_test

import (
	"slices"
	"strings"
	"testing"

	"sharedhearth/api"
	"sharedhearth/script"
)

// fails is that s has that error, and nothing is told beside it.
func fails(t *testing.T, want api.Errno, s string) {
	t.Helper()
	if got, err := script.Parse(s); err != want || len(got) != 0 {
		t.Errorf("%q: %v, error %d, want %d", s, got, err, want)
	}
}

// reads is that s tells these steps.
func reads(t *testing.T, s string, want ...api.Step) {
	t.Helper()
	if got, err := script.Parse(s); err != api.OK || !slices.Equal(got, want) {
		t.Errorf("%q: %v, error %d, want %v", s, got, err, want)
	}
}

// All that the line does not tell is zero.
func TestParse(t *testing.T) {
	reads(t, "")
	var text strings.Builder
	var l []api.Step
	for _, w := range written {
		reads(t, w.line+"\n", w.step)
		text.WriteString(w.line + "\n")
		l = append(l, w.step)
	}
	reads(t, text.String(), l...)
}

// The last line needs its line feed as well, whatever stands there.
func TestNoLineFeed(t *testing.T) {
	for _, w := range written {
		fails(t, api.ErrForm, w.line)
		fails(t, api.ErrForm, "go 1\n"+w.line)
	}
	for _, s := range []string{"what", " ", "op 1 jump", "go", "go x", "go 1\r", "\r", "op", "\x00"} {
		fails(t, api.ErrForm, s)
		fails(t, api.ErrForm, "go 1\n"+s)
	}
}

// A first word that is none: also an empty one, or one that has more about it than blanks.
func TestNoSuchStep(t *testing.T) {
	for _, s := range []string{
		"", " ", "  ", " go 1", " op 1 load 0", "what", "what 1", "Go 1", "GO 1", "goo 1", "g 1", "go\t1", "\tgo 1", "go1", "load 1", "1 go",
		"ops 1 load 0", "o 1", "op1 load 0", "spoils 1 2", "spoil\t1 2", "timers 0", "twic 1", "dropp 1", "go\r", "\r", "\x00", "go\x00 1", "\xff", "g\u043e 1",
		"\u00a0go 1", "\ufeffgo 1", "go\u00a01", "go\v1", "go\f1", "#", "-1", "0",
	} {
		fails(t, api.ErrKind, s+"\n")
		fails(t, api.ErrKind, s+"\ngo 1\n")
		fails(t, api.ErrKind, "go 1\n"+s+"\n")
	}
	fails(t, api.ErrKind, "\rgo 1\n")
}

// Behind `op` and a number there stands a word that is no operation's: ahead of all else that is wrong with the line.
func TestNoSuchOperation(t *testing.T) {
	for _, s := range []string{
		"op 1 jump 0", "op 1 jump", "op 1 jump x", "op 1 jump 0 0 0 0", "op 1 ", "op 1  ", "op 1  load 0", "op 1  0", "op 1 Load 0", "op 1 loads 0", "op 1 loa 0",
		"op 1 stor 0 1", "op 1 adds 0 1", "op 1 evicts 0", "op 1 op 0", "op 1 go 0", "op 1 2", "op 1 1 0", "op -1 jump 0", "op 0 jump 0",
		"op 9223372036854775807 jump 0", "op -9223372036854775808 jump 0", "op 1 load\t0", "op 1 \tload 0", "op 1 load\r", "op 1 \r", "op 1 load\x00 0", "op 1 \xff 0",
	} {
		fails(t, api.ErrKind, s+"\n")
	}
}

// Behind `op` and what is no number nobody asks which operation it is.
func TestOperationOfNoNode(t *testing.T) {
	for _, node := range noNumbers {
		for _, rest := range []string{"", " ", " jump", " jump 0", " load 0", " store 0 9", " evict"} {
			fails(t, api.ErrForm, "op "+node+rest+"\n")
		}
	}
}

// noNumbers are words, none of which is a number that is so written.
var noNumbers = []string{
	"", "x", "-", "+", "--1", "-x", "01", "00", "000", "-0", "-00", "-01", "+1", "+0", "+-1", "-+1", "1-", "1.", "1.0", ".5", "1e1", "0x1", "0b1", "0o1", "x1", "1x",
	"1_000", "_1", "1_", "1,0", "\u0967", "\uff11", "\u00bd", "1\t", "\t1", "1\r", "1\x00", "\x00", "1\xff", "\xff", "1\u00a0", "\u22121", "inf", "nan", "0x", "1/1",
	"9223372036854775808", "-9223372036854775809", "18446744073709551616", "18446744073709551617", "99999999999999999999", "-99999999999999999999", "09223372036854775807",
	"340282366920938463463374607431768211457", "-340282366920938463463374607431768211455",
}

// Wherever a number stands, it must be so written.
func TestNoNumber(t *testing.T) {
	for _, n := range noNumbers {
		for _, s := range []string{
			"go N", "drop N", "twice N", "timer N", "spoil N 1", "spoil 1 N", "spoil N N",
			"op 1 load N", "op 1 evict N", "op 1 store N 9", "op 1 store 0 N", "op 1 add N 9", "op 1 add 0 N",
		} {
			fails(t, api.ErrForm, strings.ReplaceAll(s, "N", n)+"\n")
		}
	}
}

// Too few words, or too many; one that is empty is one, too.
func TestWordsMissingOrLeft(t *testing.T) {
	for _, w := range written {
		fails(t, api.ErrForm, w.line+" \n")
		fails(t, api.ErrForm, w.line+" 0\n")
		fails(t, api.ErrForm, w.line+" x\n")
		fails(t, api.ErrForm, w.line+"  \n")
		fails(t, api.ErrForm, w.line+" "+w.line+"\n")
		words := strings.Split(w.line, " ")
		for n := 1; n < len(words); n++ {
			fails(t, api.ErrForm, strings.Join(words[:n], " ")+"\n")
		}
	}
	for _, s := range []string{"go  1", "go ", "go  ", "timer  0", "spoil 1  2", "spoil  1 2", "op  1 load 0", "op 1 load  0", "op 1 store 0  9", "op ", "op  ", "op 1 store 0 ", "op 1 load "} {
		fails(t, api.ErrForm, s+"\n")
	}
	fails(t, api.ErrForm, "op 1 load 0 0\n")
	fails(t, api.ErrForm, "op 1 evict 0 0\n")
	fails(t, api.ErrForm, "op 1 add 0\n")
}

// Of several wrong lines the first one's error is told, also ahead of a line feed that is missing.
func TestFirstLinesError(t *testing.T) {
	fails(t, api.ErrForm, "go x\nwhat\n")
	fails(t, api.ErrKind, "what\ngo x\n")
	fails(t, api.ErrKind, "go 1\nop 1 jump\ngo\n")
	fails(t, api.ErrForm, "go 1\ngo\nop 1 jump\n")
	fails(t, api.ErrKind, "what\ngo 1")
	fails(t, api.ErrKind, "\ngo 1")
	fails(t, api.ErrForm, "go\nwhat")
	fails(t, api.ErrForm, "go 1\nwhat")
	fails(t, api.ErrKind, "go 1\n\n")
	fails(t, api.ErrKind, "go 1\n\ngo 2\n")
	fails(t, api.ErrForm, "go 1\n ")
	fails(t, api.ErrForm, "go 1\r\nwhat\n")
}

// What is far too long is as wrong as anything else, and costs no more.
func TestLongLines(t *testing.T) {
	const long = 1 << 22
	blanks, noughts, nines := strings.Repeat(" ", long), strings.Repeat("0", long), strings.Repeat("9", long)
	fails(t, api.ErrKind, blanks+"\n")
	fails(t, api.ErrForm, blanks)
	fails(t, api.ErrForm, "go 1"+blanks+"\n")
	fails(t, api.ErrForm, "go"+blanks+"1\n")
	fails(t, api.ErrKind, "op 1"+blanks+"\n")
	fails(t, api.ErrForm, "go "+noughts+"\n")
	fails(t, api.ErrForm, "go "+noughts+"1\n")
	fails(t, api.ErrForm, "go "+nines+"\n")
	fails(t, api.ErrForm, "go -"+nines+"\n")
	fails(t, api.ErrKind, strings.Repeat("go", long)+"\n")
	fails(t, api.ErrKind, strings.Repeat("\n", long))
}

// Each answer is the caller's: what is done to it is not seen in the next one.
func TestParseIsNewEachTime(t *testing.T) {
	const s = "go 1\nop 1 store 0 7\n"
	a, _ := script.Parse(s)
	a[0], a[1] = timer(9), timer(8)
	reads(t, s, goes(1), op(1, api.OpStore, 0, 7))
}
