package tests

import (
	"fmt"
	"go/ast"
	"go/parser"
	"go/token"
	"go/types"
	"maps"
	"regexp"
	"slices"
	"strings"
	"sync"
	"testing"

	"loop.example/lapflow/impl"
)

// exampleSession is the document's example: each line, and what it gives.
var exampleSession = []string{
	"cap e 1", "ok",
	"cap w 2", "ok",
	"add kl 0 10 e:0:4 w:4:3", "code 0",
	"add ba 1 10 e:0:4 w:4:3", "code 0",
	"add lh 1 2 e:0:2", "code 0",
	"add q 2 30 w:0:5 e:5:2", "code 0",
	"slots", "ba@4 kl@0 lh@- q@3 late 4",
	"load e", "0-9:1",
	"load w", "3-3:1 4-6:2 7-10:1",
	"bound e", "1",
	"cap e 0", "no",
	"drop kl", "code 0",
	"slots", "ba@1 lh@- q@2 late 0",
	"add lh 1 2 e:0:2", "code 3",
	"compress", "ba@1 lh@- q@2 late 0",
	"again", "ba@1 lh@- q@2 late 0",
	"add a1 0 0 e:0:1", "code 0",
	"slots", "a1@0 ba@1 lh@- q@2 late 0",
	"add a1 0 0 x:1", "bad",
}

// busySession makes a book with a flight that waits, two that could come ahead, caps, and two sectors without one.
var busySession = []string{
	"cap e 1", "cap w 2",
	"add a 0 5 e:0:6", "add b 0 30 e:0:4 w:4:3", "add c 0 3 e:0:1 x:1:1", "add d 9 30 e:0:2 y:2:3", "cap e 3",
}

// probes show all that a book holds: its slots and loads, and its caps by what comes in and what is refused.
var probes = probeLines()

func probeLines() []string {
	lines := []string{"slots"}
	for _, sector := range []string{"e", "w", "x", "y", "z"} {
		lines = append(lines, "load "+sector, "bound "+sector)
	}
	lines = append(lines, "add p 0 60 e:0:3", "add p2 0 60 w:0:3", "add p3 0 60 w:0:2 z:2:2", "slots", "again", "drop p")
	for _, sector := range []string{"s1", "s2", "s3", "s4", "s5"} {
		lines = append(lines, "cap "+sector+" 0")
	}
	for _, most := range []string{"0", "1", "2"} {
		lines = append(lines, "cap e "+most, "cap w "+most, "add q"+most+" 0 9 e:0:9 w:9:9", "slots")
	}
	return append(lines, "compress", "load e", "load w", "bound e", "bound w")
}

// textOf is lines, each with a newline.
func textOf(lines ...string) string {
	text := ""
	for _, line := range lines {
		text += line + "\n"
	}
	return text
}

func wantText(t *testing.T, text, want string) {
	t.Helper()
	if got := impl.FlowSession(text); got != want {
		t.Errorf("%q is answered %q, not %q", text, got, want)
	}
}

// wantLines plays lines that each stand ahead of their answer.
func wantLines(t *testing.T, pairs ...string) {
	t.Helper()
	var lines, answers []string
	for pair := range slices.Chunk(pairs, 2) {
		lines = append(lines, pair[0])
		answers = append(answers, pair[1])
	}
	got := strings.Split(impl.FlowSession(textOf(lines...)), "\n")
	if len(got) != len(lines)+1 || got[len(lines)] != "" {
		t.Fatalf("%d lines have the answers %q", len(lines), got)
	}
	for i, want := range answers {
		if got[i] != want {
			t.Errorf("line %d of %q, %q, is answered %q, not %q", i, lines, lines[i], got[i], want)
		}
	}
}

// wantBad has lines that are bad, each alone, in a session with a book, and without a newline at its end.
func wantBad(t *testing.T, lines ...string) {
	t.Helper()
	before := impl.FlowSession(textOf(busySession...))
	for _, line := range lines {
		wantText(t, textOf(line), "bad\n")
		wantText(t, textOf(busySession...)+textOf(line), before+"bad\n")
		if line != "" {
			wantText(t, line, "bad\n")
		}
	}
}

func TestSessionExample(t *testing.T) {
	wantLines(t, exampleSession...)
}

func TestSessionLines(t *testing.T) {
	for text, want := range map[string]string{
		"":                     "",
		"\n":                   "bad\n",
		"\n\n":                 "bad\nbad\n",
		"slots":                "late 0\n",
		"slots\n":              "late 0\n",
		"slots\n\n":            "late 0\nbad\n",
		"slots\n\n\n":          "late 0\nbad\nbad\n",
		"\nslots":              "bad\nlate 0\n",
		"slots\n\nslots":       "late 0\nbad\nlate 0\n",
		"slots\nslots":         "late 0\nlate 0\n",
		"slots\nslots\n":       "late 0\nlate 0\n",
		"slots\n ":             "late 0\nbad\n",
		"slots\r\nslots\r":     "bad\nbad\n",
		"slots\rslots":         "bad\n",
		"slots\x00":            "bad\n",
		"slots\vslots\n\tload": "bad\nbad\n",
		"cap e 1\n\ncap e 2\n": "ok\nbad\nok\n",
		"load e\nbound e":      "none\n0\n",
		"compress\nagain\n":    "late 0\nlate 0\n",
		"drop a\ndrop b":       "code 3\ncode 3\n",
	} {
		wantText(t, text, want)
	}
}

func TestSessionSpaces(t *testing.T) {
	wantBad(t, "", " ", "  ", " slots", "slots ", "  slots", "slots  ", " compress", "compress ", " again", "again ",
		" cap e 1", "cap e 1 ", "cap  e 1", "cap e  1", "cap e ", "cap e", "cap  ",
		" drop a", "drop a ", "drop  a", " load e", "load e ", "load  e", " bound e", "bound e ", "bound  e",
		" add p 0 9 e:0:1", "add p 0 9 e:0:1 ", "add  p 0 9 e:0:1", "add p  0 9 e:0:1", "add p 0  9 e:0:1", "add p 0 9  e:0:1",
		"add p 0 9 e:0:1  w:1:1", "add p 0 9 ", "add p 0  e:0:1", "add p  9 e:0:1",
		"slots\t", "cap\te 1", "cap e\t1", "cap e 1\t", "drop\ta", "cap\u00a0e 1", "load\ve", "slots\r", "cap e 1\r", "add p 0 9 e:0:1\r")
}

// TestSessionEmptyWords has spaces between which nothing stands, where a name is asked for: any word is one there, and
// then what is asked with it says that it is no name.
func TestSessionEmptyWords(t *testing.T) {
	wantLines(t,
		"cap  1", "no",
		"cap  0", "no",
		"drop ", "code 3",
		"load ", "none",
		"bound ", "0",
		"add  0 9 e:0:1", "code 2",
		"add p 0 9 :0:1", "code 2",
		"add p 0 9 e:0:1 :1:1", "code 2",
		"slots", "late 0")
}

func TestSessionOtherWords(t *testing.T) {
	wantBad(t, "x", "Slots", "SLOTS", "slot", "slotss", "slots:", "sl ots", "cap", "add", "drop", "load", "bound", "setCap", "takes", "init",
		"Cap e 1", "caps e 1", "CAP e 1", "Add p 0 9 e:0:1", "adds p 0 9 e:0:1", "Drop a", "drops a", "Load e", "loads e", "Bound e", "bounds e",
		"Compress", "compres", "Again", "agai", "ok", "no", "bad", "late 0", "code 0", "none", "too long", "-", "0", "1", "e 1", "e", "a@0",
		"1 cap e", "e cap 1", "quit", "help", "#", "// slots", "\"slots\"", "slots;slots", "slots,slots")
	wantBad(t, "\xff", "\xc3", "slots\xff", "\xffslots", "\xff slots", "slots \xff", "\xc0\xaf", "\xed\xa0\x80", "s\xe9lots", "ｓlots", "\ufeffslots",
		"cap e \xff", "cap e 1\xff", "cap e \xff1", "cap\xff e 1", "add p 0 9 \xff", "add p \xff 9 e:0:1", "add p 0 9 e:\xff:1", "add p 0 9 e:0:1\xff", "\x00", "cap e 1\x00")
}

// TestSessionNamesThatAreNone has any words as names, bytes that are no UTF-8 among them.
func TestSessionNamesThatAreNone(t *testing.T) {
	for _, name := range badNames {
		if strings.ContainsAny(name, " \n") {
			continue
		}
		wantLines(t,
			"cap "+name+" 1", "no",
			"add "+name+" 0 9 e:0:1", "code 2",
			"drop "+name, "code 3",
			"load "+name, "none",
			"bound "+name, "0",
			"slots", "late 0")
		visits := "code 2"
		if strings.Contains(name, ":") {
			visits = "bad"
		}
		wantLines(t, "add p 0 9 "+name+":0:1", visits, "add p 0 9 e:0:1 "+name+":1:1", visits, "slots", "late 0")
	}
	for _, name := range goodNames {
		wantLines(t,
			"cap "+name+" 1", "ok",
			"add "+name+" 0 9 "+name+":0:1", "code 0",
			"load "+name, "0-0:1",
			"slots", name+"@0 late 0",
			"drop "+name, "code 0",
			"slots", "late 0")
	}
	// The words of commands are names too.
	wantLines(t, "cap cap 1", "ok", "cap add 2", "ok", "add add 0 9 add:0:1 cap:1:1", "code 0", "add slots 0 9 cap:1:1", "code 0",
		"slots", "add@0 slots@1 late 1", "load cap", "1-2:1", "bound cap", "1", "drop drop", "code 3", "drop add", "code 0", "slots", "slots@0 late 0")
}

func TestSessionWordCounts(t *testing.T) {
	wantBad(t, "cap", "cap e", "cap 1", "cap e 1 1", "cap e 1 w 1", "cap e 1 e:0:1",
		"add", "add p", "add p 0", "add p 0 9", "add 0 9 e:0:1", "add p 9 e:0:1", "add e:0:1", "add p e:0:1", "add p 0 9 9 e:0:1", "add p 0 9 e:0:1 9", "add p 0 9 e",
		"drop", "drop a b", "drop a 1", "compress 1", "compress a", "compress compress", "again 1", "again a", "slots 1", "slots a", "slots slots",
		"load", "load e w", "load e 1", "bound", "bound e w", "bound e 1")
}

// numberWords are words that are no N.
var numberWords = []string{
	"", "00", "01", "00001", "000000", "012345", "100000", "123456", "999999", "1000000", "99999999999999999999999", "18446744073709551617",
	"9223372036854775808", "-1", "+1", "-0", "+0", "--1", "-", "+", "a", "1a", "a1", "0x1", "0b1", "0o1", "1_0", "1e1", "1.", "1.0", ".1", "1,0",
	"٣", "１", "1\xff", "\xff", "1-", "0-", "1+1", "²", "one", "1:1",
}

func TestSessionNumbersThatAreNone(t *testing.T) {
	for _, n := range numberWords {
		wantBad(t, "cap e "+n, "add p "+n+" 9 e:0:1", "add p 0 "+n+" e:0:1", "add p 0 9 e:"+n+":1", "add p 0 9 e:0:"+n,
			"add p 0 9 e:0:1 w:"+n+":1", "add p 0 9 e:0:1 w:1:"+n)
	}
	// Where a line is bad and refused too, it is bad.
	wantBad(t, "cap E 01", "cap E -1", "add A 0 01 e:0:1", "add a 0 99 e:0:01", "add a 0 9 e:0:1 E", "add p 0 61 e:0:-1", "add p 0 9 e:0:1 e:0:1 e:0:1 e:0:1 e:0:1 e:0:1 e:0:+1")
}

// TestSessionNumbers has numbers up to five digits, which the limits of flights and caps refuse in their own way.
func TestSessionNumbers(t *testing.T) {
	for _, n := range []string{"21", "99", "100", "9999", "10000", "10001", "99998", "99999"} {
		wantLines(t, "cap e "+n, "no", "add p 0 "+strings.Repeat("9", len(n))+" e:0:1", "code 2", "add p 0 9 e:0:"+strings.Repeat("9", len(n)), "code 2", "slots", "late 0")
	}
	for _, n := range []string{"0", "1", "9", "10", "19", "20"} {
		wantLines(t, "cap e "+n, "ok")
	}
	wantLines(t,
		"add a 10000 60 e:200:30", "code 0",
		"add b 10001 60 e:200:30", "code 2",
		"add b 99999 60 e:200:30", "code 2",
		"add b 10000 61 e:200:30", "code 2",
		"add b 10000 60 e:201:30", "code 2",
		"add b 10000 60 e:99999:30", "code 2",
		"add b 10000 60 e:200:31", "code 2",
		"add b 10000 60 e:200:0", "code 2",
		"add b 0 0 e:0:1", "code 0",
		"load e", "0-0:1 10200-10229:1",
		"slots", "a@10000 b@0 late 0")
	// With a cap of 1 the last has the last slot that there is.
	wantLines(t, "cap e 1", "ok", "add a 10000 60 e:0:30", "code 0", "add b 10000 60 e:0:30", "code 0", "add c 10000 60 e:0:1", "code 0", "add d 10000 59 e:0:1", "code 0",
		"slots", "a@10000 b@10030 c@10060 d@- late 90", "load e", "10000-10060:1", "bound e", "6")
}

func TestSessionVisits(t *testing.T) {
	wantBad(t, "add p 0 9 e", "add p 0 9 e:0", "add p 0 9 e:0:1:1", "add p 0 9 e:0:1:", "add p 0 9 :e:0:1", "add p 0 9 e::1", "add p 0 9 e:0:", "add p 0 9 ::",
		"add p 0 9 :", "add p 0 9 :::", "add p 0 9 0:1", "add p 0 9 e:w:1", "add p 0 9 e:0:w", "add p 0 9 0:0:e", "add p 0 9 e;0;1", "add p 0 9 e.0.1", "add p 0 9 e:0;1",
		"add p 0 9 e:0:1 w", "add p 0 9 e:0:1 w:1", "add p 0 9 w e:0:1", "add p 0 9 e:0:1 w:1:1:1", "add p 0 9 e:0:1,w:1:1", "add p 0 9 e:0:1w:1:1", "add p:0 0 9 e:0",
		"add p 0 9 e:0:1 w:1:1 e:2:1 w:3:1 e:4:1 w:5:1 e:6", "add p 0 9:e:0:1", "add p 0:9 e:0:1")
	wantLines(t,
		"add a 0 9 e:0:1 w:1:1 e:2:1 w:3:1 e:4:1", "code 0",
		"add b 0 9 e:0:1 w:1:1 e:2:1 w:3:1 e:4:1 w:5:1", "code 2",
		"add c 0 9 e:0:4 w:3:1", "code 2",
		"add c 0 9 w:4:1 e:0:4", "code 2",
		"add d 0 9 0:0:1", "code 0",
		"add e 0 9 -:0:1", "code 0",
		"load e", "0-0:1 2-2:1 4-4:1",
		"load w", "1-1:1 3-3:1",
		"load 0", "0-0:1",
		"load -", "0-0:1",
		"slots", "a@0 d@0 e@0 late 0")
}

func TestSessionAdd(t *testing.T) {
	pairs := []string{"cap e 1", "ok"}
	for i, name := range []string{"h", "b", "f", "a", "d", "g", "c", "e"} {
		pairs = append(pairs, "add "+name+" 0 6 e:0:1", "code 0", "add "+name+" 0 6 e:0:1", "code 3", "add "+name+" 0 61 e:0:1", "code 2")
		if i == 0 {
			pairs = append(pairs, "slots", "h@0 late 0")
		}
	}
	pairs = append(pairs,
		"slots", "a@3 b@1 c@6 d@4 e@- f@2 g@5 h@0 late 21",
		"add i 0 6 e:0:1", "code 4",
		"add i 0 6 z:0:1", "code 4",
		"add 0 0 6 e:0:1", "code 4",
		"add h 5 6 z:0:1", "code 3",
		"add i 0 61 e:0:1", "code 2",
		"add I 0 6 e:0:1", "code 2",
		"add e 0 6 e:0:0", "code 2",
		"slots", "a@3 b@1 c@6 d@4 e@- f@2 g@5 h@0 late 21",
		"load e", "0-6:1",
		"bound e", "28",
		"drop i", "code 3",
		"drop b", "code 0",
		"slots", "a@1 c@3 d@4 e@6 f@2 g@5 h@0 late 21",
		"add i 0 6 e:0:1", "code 0",
		"slots", "a@1 c@3 d@4 e@6 f@2 g@5 h@0 i@- late 21")
	wantLines(t, pairs...)
}

func TestSessionDrop(t *testing.T) {
	wantLines(t,
		"drop a", "code 3",
		"cap e 1", "ok",
		"add a 0 9 e:0:4", "code 0",
		"add b 0 9 e:0:4", "code 0",
		"add c 0 3 e:0:4", "code 0",
		"add d 1 20 e:0:4", "code 0",
		"slots", "a@0 b@4 c@- d@8 late 11",
		"drop e", "code 3",
		"drop A", "code 3",
		"drop aa", "code 3",
		"slots", "a@0 b@4 c@- d@8 late 11",
		"drop b", "code 0",
		"drop b", "code 3",
		"slots", "a@0 c@- d@4 late 3",
		"drop a", "code 0",
		"slots", "c@0 d@4 late 3",
		"drop d", "code 0",
		"drop c", "code 0",
		"slots", "late 0",
		"drop c", "code 3",
		"load e", "none",
		"add c 5 3 e:0:4", "code 0",
		"slots", "c@5 late 0")
}

// TestSessionCap has caps that come in anywhere among others, that change, and that are refused.
func TestSessionCap(t *testing.T) {
	wantLines(t,
		"cap m 1", "ok",
		"cap c 1", "ok",
		"cap x 1", "ok",
		"cap h 1", "ok",
		"cap p 1", "ok",
		"cap zz 1", "ok",
		"cap a 1", "no",
		"cap n 1", "no",
		"cap zzz 1", "no",
		"cap a 0", "no",
		// One that is there may change, as their number stays the same.
		"cap c 2", "ok",
		"cap zz 0", "ok",
		"cap m 20", "ok",
		"cap m 21", "no",
		"cap M 1", "no",
		"add a 0 9 c:0:1 h:1:1 m:2:1 p:3:1 x:4:1", "code 0",
		"add b 0 9 c:0:1 h:1:1 m:2:1 p:3:1 x:4:1", "code 0",
		"add c 0 9 c:0:1", "code 0",
		"add d 0 9 c:0:1", "code 0",
		"add e 0 9 m:2:1", "code 0",
		"add f 0 9 zz:0:1", "code 0",
		"add g 0 9 a:0:1", "code 0",
		"slots", "a@0 b@1 c@0 d@1 e@0 f@- g@0 late 2",
		"load c", "0-1:2",
		"load m", "2-2:2 3-3:1",
		"bound c", "2",
		"bound h", "1",
		"bound m", "0",
		"bound x", "1",
		"bound zz", "0",
		"bound a", "0",
		"cap c 1", "no",
		"cap m 1", "no",
		"cap m 2", "ok",
		"cap h 0", "no",
		"cap h 2", "ok",
		// Nobody moves by a cap alone.
		"slots", "a@0 b@1 c@0 d@1 e@0 f@- g@0 late 2",
		"cap zz 1", "ok",
		"compress", "a@0 b@1 c@0 d@1 e@0 f@0 g@0 late 2",
		"cap zz 0", "no")
	wantLines(t, "cap w 1", "ok", "cap e 1", "ok", "add a 0 9 e:0:1 w:1:1", "code 0", "add b 0 9 e:0:1 w:1:1", "code 0", "slots", "a@0 b@1 late 1")
	wantLines(t, "cap ab 1", "ok", "cap a 1", "ok", "cap b 1", "ok", "cap aa 1", "ok", "cap - 1", "ok", "cap 0 1", "ok", "cap a 20", "ok", "cap ac 1", "no")
	// Who waits does not stand in a cap's way, and a cap of a sector that comes in late is held against the loads there.
	wantLines(t, "cap e 0", "ok", "add a 0 9 e:0:4", "code 0", "slots", "a@- late 0", "cap e 0", "ok", "cap e 1", "ok", "cap e 0", "ok",
		"add b 0 9 w:0:4", "code 0", "add c 0 9 w:0:4", "code 0", "cap w 1", "no", "cap w 0", "no", "cap w 2", "ok", "add d 0 9 w:0:4", "code 0", "slots", "a@- b@0 c@0 d@4 late 4")
}

// TestSessionAgain has books that compressing leaves as they are, while giving anew serves who is planned first.
func TestSessionAgain(t *testing.T) {
	wantLines(t,
		"cap e 1", "ok",
		"add b 1 20 e:0:4", "code 0",
		"add a 0 20 e:0:4", "code 0",
		"slots", "a@5 b@1 late 5",
		"compress", "a@5 b@1 late 5",
		"slots", "a@5 b@1 late 5",
		"again", "a@0 b@4 late 3",
		"slots", "a@0 b@4 late 3",
		"compress", "a@0 b@4 late 3",
		"load e", "0-7:1",
		"drop b", "code 0",
		"add c 2 0 e:0:4", "code 0",
		"slots", "a@0 c@- late 0",
		"add 0 0 20 e:0:4", "code 0",
		"cap e 2", "ok",
		"slots", "0@4 a@0 c@- late 4",
		"again", "0@0 a@0 c@- late 0")
	// Somebody may lose a slot by it.
	wantLines(t, "cap e 1", "ok", "add b 1 0 e:0:4", "code 0", "add a 0 9 e:0:4", "code 0", "slots", "a@5 b@1 late 5", "again", "a@0 b@- late 0", "cap e 2", "ok",
		"slots", "a@0 b@- late 0", "compress", "a@0 b@1 late 0")
}

// TestSessionLoadAndBound has sectors that have a cap or none, and that somebody visits or nobody.
func TestSessionLoadAndBound(t *testing.T) {
	wantLines(t,
		"load e", "none",
		"bound e", "0",
		"cap e 1", "ok",
		"cap v 3", "ok",
		"load v", "none",
		"bound v", "0",
		"add a 0 9 e:0:1 x:1:2", "code 0",
		"add b 0 9 e:0:1 x:1:2", "code 0",
		"add c 0 9 e:0:1 x:1:2", "code 0",
		"load e", "0-2:1",
		"bound e", "3",
		"load x", "1-1:1 2-3:2 4-4:1",
		"bound x", "0",
		"load v", "none",
		"bound v", "0",
		"load y", "none",
		"bound y", "0",
		"load e:", "none",
		"bound e:0", "0",
		"cap y 0", "ok",
		"add d 0 9 y:0:3", "code 0",
		"load y", "none",
		"bound y", "0",
		"slots", "a@0 b@1 c@2 d@- late 3",
		"cap y 1", "ok",
		"load y", "none",
		"compress", "a@0 b@1 c@2 d@0 late 3",
		"load y", "0-2:1")
	// More than nine late together, so that the number has two digits.
	wantLines(t, "cap e 1", "ok", "add a 0 60 e:0:30", "code 0", "add b 0 60 e:0:30", "code 0", "add c 0 60 e:0:30", "code 0", "slots", "a@0 b@30 c@60 late 90", "bound e", "3", "load e", "0-89:1")
}

// TestSessionRefusedLeavesBook plays a line that is refused ahead of the probes: nothing but its own answer comes of it.
func TestSessionRefusedLeavesBook(t *testing.T) {
	full := slices.Concat(busySession, []string{"add e 0 1 e:0:1", "add f 0 1 w:0:1", "add g 0 1 x:0:1", "add h 0 1 y:0:1"})
	capped := slices.Concat(busySession, []string{"cap f 1", "cap g 1", "cap x 1", "cap y 1"})
	empty := []string{}
	for _, c := range []struct {
		before  []string
		refused []string
		answer  string
	}{
		{empty, []string{"", "x", "cap e 01", "cap e", "add a 0 9", "add a 0 9 e:0:1 w", "add a 0 9 e:0:1 w:1:x", "slots 1"}, "bad"},
		{busySession, []string{"", "x", "cap e 01", "cap e", "cap e 1 1", "add z 0 9", "add z 0 9 e:0:1 w", "add z 0 9 e:0:1 w:1:x", "drop", "drop a b", "compress 1", "again a", "slots 1"}, "bad"},
		{full, []string{"", "drop", "drop a b", "compress 1", "again ", " again"}, "bad"},
		{empty, []string{"cap E 1", "cap e 21", "cap  1", "cap e 99999"}, "no"},
		{busySession, []string{"cap e 0", "cap w 0", "cap y 0", "cap E 1", "cap e 21", "cap z 21"}, "no"},
		{capped, []string{"cap a 1", "cap z 5", "cap ee 20", "cap e 0", "cap e 21"}, "no"},
		{empty, []string{"add A 0 9 e:0:1", "add a 10001 9 e:0:1", "add a 0 61 e:0:1", "add a 0 9 E:0:1", "add a 0 9 e:0:0", "add a 0 9 e:0:31", "add a 0 9 e:201:1"}, "code 2"},
		{busySession, []string{"add a 0 61 e:0:1", "add z 0 61 e:0:1", "add z 0 9 e:1:1 w:1:1"}, "code 2"},
		{full, []string{"add z 0 61 e:0:1"}, "code 2"},
		{busySession, []string{"add a 0 5 e:0:6", "add b 9 9 z:0:1", "add c 0 60 z:0:3", "drop e", "drop A", "drop aa", "drop "}, "code 3"},
		{empty, []string{"drop a", "drop "}, "code 3"},
		{full, []string{"add h 0 1 y:0:1", "drop z"}, "code 3"},
		{full, []string{"add z 0 1 y:0:1", "add 0 0 1 y:0:1"}, "code 4"},
	} {
		before := textOf(c.before...)
		first := impl.FlowSession(before)
		behind := strings.TrimPrefix(impl.FlowSession(before+textOf(probes...)), first)
		for _, refused := range c.refused {
			wantText(t, before+textOf(refused)+textOf(probes...), first+c.answer+"\n"+behind)
		}
		all := before
		for _, refused := range c.refused {
			all += textOf(refused)
		}
		wantText(t, all+textOf(probes...), first+strings.Repeat(c.answer+"\n", len(c.refused))+behind)
	}
}

// TestSessionProbesTell has lines that do change the book, and says that the probes show it.
func TestSessionProbesTell(t *testing.T) {
	before := textOf(busySession...)
	first := impl.FlowSession(before)
	behind := strings.TrimPrefix(impl.FlowSession(before+textOf(probes...)), first)
	for line, answer := range map[string]string{
		"cap e 2": "ok", "cap w 1": "ok", "cap z 0": "ok", "cap z 1": "ok", "cap q 20": "ok",
		"add z 0 9 e:0:1": "code 0", "drop a": "code 0", "drop c": "code 0",
		"compress": "a@0 b@0 c@0 d@9 late 0",
	} {
		got, ok := strings.CutPrefix(impl.FlowSession(before+textOf(line)+textOf(probes...)), first+answer+"\n")
		if !ok || got == behind {
			t.Errorf("%q is not answered %q, or changes nothing that the probes show", line, answer)
		}
	}
}

// TestSessionBytes has texts as long as they may be, and one byte longer.
func TestSessionBytes(t *testing.T) {
	const tooLong = "too long\n"
	for _, c := range []struct {
		text, want string
	}{
		{strings.Repeat("x", impl.FlowMaxSession), "bad\n"},
		{strings.Repeat("x", impl.FlowMaxSession-1) + "\n", "bad\n"},
		{"drop " + strings.Repeat("x", impl.FlowMaxSession-5), "code 3\n"},
		{"slots\n" + strings.Repeat("\xff", impl.FlowMaxSession-6), "late 0\nbad\n"},
		{"slots\nload " + strings.Repeat("é", (impl.FlowMaxSession-11)/2) + "\n", "late 0\nnone\n"},
		{strings.Repeat(" ", impl.FlowMaxSession), "bad\n"},
		{"cap e " + strings.Repeat("9", impl.FlowMaxSession-6), "bad\n"},
		{"add a 0 9" + strings.Repeat(" e:0:1", 1665) + "\n", "code 2\n"},
		{strings.Repeat(strings.Repeat("x", 49)+"\n", impl.FlowMaxLines), strings.Repeat("bad\n", impl.FlowMaxLines)},
	} {
		fill := impl.FlowMaxSession - len(c.text)
		if fill > 1 {
			t.Fatalf("%d bytes are no edge", len(c.text))
		}
		wantText(t, c.text, c.want)
		for _, more := range []string{"x", "\n", " ", "\xff", "\x00"} {
			wantText(t, c.text+strings.Repeat(more, 1+fill), tooLong)
			wantText(t, c.text+strings.Repeat(more, 10+fill), tooLong)
		}
	}
	for _, n := range []int{2, 10, 100} {
		wantText(t, strings.Repeat("x", n*impl.FlowMaxSession), tooLong)
		wantText(t, strings.Repeat("\n", n*impl.FlowMaxSession), tooLong)
		wantText(t, strings.Repeat("slots\n", n*impl.FlowMaxSession), tooLong)
	}
	// Bytes count, not runes.
	wantText(t, strings.Repeat("é", impl.FlowMaxSession/2), "bad\n")
	wantText(t, strings.Repeat("é", impl.FlowMaxSession/2+1), tooLong)
}

// TestSessionManyLines has as many lines as there may be, and one more.
func TestSessionManyLines(t *testing.T) {
	const most = impl.FlowMaxLines
	for line, answer := range map[string]string{"slots": "late 0\n", "": "bad\n", "x": "bad\n", " ": "bad\n", "load e": "none\n", "cap e 1": "ok\n"} {
		wantText(t, strings.Repeat(line+"\n", most-1), strings.Repeat(answer, most-1))
		wantText(t, strings.Repeat(line+"\n", most), strings.Repeat(answer, most))
		wantText(t, strings.Repeat(line+"\n", most+1), "too long\n")
		wantText(t, strings.Repeat(line+"\n", 2*most), "too long\n")
		wantText(t, strings.Repeat(line+"\n", most-1)+"slots", strings.Repeat(answer, most-1)+"late 0\n")
		wantText(t, strings.Repeat(line+"\n", most)+"slots", "too long\n")
		wantText(t, strings.Repeat(line+"\n", most)+" ", "too long\n")
		wantText(t, strings.Repeat(line+"\n", most)+"\n", "too long\n")
		wantText(t, "\n"+strings.Repeat(line+"\n", most), "too long\n")
	}
}

// lineForms are the document's table: how each line is written. An empty word is a word.
var lineForms = regexp.MustCompile(strings.ReplaceAll(
	`^(?:(cap) ([^ ]*) (N)|(add) ([^ ]*) (N) (N)((?: [^ :]*:N:N)+)|(drop|load|bound) ([^ ]*)|(compress|again|slots))$`,
	"N", `(?:0|[1-9][0-9]{0,4})`))

// playSlowly is FlowSession by the document's words, leaning on what the other chapters answer.
func playSlowly(text string) string {
	var lines []string
	for len(text) > 0 && len(lines) <= impl.FlowMaxLines {
		line, rest, _ := strings.Cut(text, "\n")
		lines, text = append(lines, line), rest
	}
	if len(lines) > impl.FlowMaxLines {
		return "too long\n"
	}
	var book impl.FlowBook
	told := ""
	for _, line := range lines {
		told += playLineSlowly(&book, line) + "\n"
	}
	return told
}

func playLineSlowly(book *impl.FlowBook, line string) string {
	m := lineForms.FindStringSubmatch(line)
	if m == nil {
		return "bad"
	}
	code := -1
	switch m[1] + m[4] + m[9] + m[11] {
	case "cap":
		return capSlowly(book, m[2], numberOf(m[3]))
	case "add":
		*book, code = impl.FlowAdd(*book, flight(m[5], numberOf(m[6]), numberOf(m[7]), visitsSlowly(m[8])...))
	case "drop":
		*book, code = impl.FlowDrop(*book, m[10])
	case "load":
		return loadSlowly(*book, m[10])
	case "bound":
		return fmt.Sprint(impl.FlowBound(book.Caps, book.Flights, m[10]))
	case "compress":
		*book = impl.FlowCompress(*book)
	case "again":
		book.Slots = impl.FlowGive(book.Caps, book.Flights)
	}
	if code >= 0 {
		return fmt.Sprint("code ", code)
	}
	told := ""
	for i, f := range book.Flights {
		told += strings.Replace(fmt.Sprintf("%s@%d ", f.Name, book.Slots[i]), "@-1 ", "@- ", 1)
	}
	return told + fmt.Sprint("late ", impl.FlowDelay(book.Flights, book.Slots))
}

func capSlowly(book *impl.FlowBook, sector string, most int) string {
	caps := []impl.FlowCap{sectorCap(sector, most)}
	for _, c := range book.Caps {
		if c.Sector != sector {
			caps = append(caps, c)
		}
	}
	slices.SortFunc(caps, func(a, b impl.FlowCap) int { return strings.Compare(a.Sector, b.Sector) })
	if !impl.FlowFits(caps, book.Flights, book.Slots) {
		return "no"
	}
	book.Caps = caps
	return "ok"
}

func loadSlowly(book impl.FlowBook, sector string) string {
	told := "none"
	for i, r := range impl.FlowRuns(book.Flights, book.Slots, sector) {
		if i == 0 {
			told = ""
		} else {
			told += " "
		}
		told += fmt.Sprintf("%d-%d:%d", r.From, r.To, r.Load)
	}
	return told
}

func visitsSlowly(words string) []impl.FlowVisit {
	var visits []impl.FlowVisit
	for _, word := range strings.Split(words, " ")[1:] {
		sector, numbers, _ := strings.Cut(word, ":")
		after, stay, _ := strings.Cut(numbers, ":")
		visits = append(visits, visit(sector, numberOf(after), numberOf(stay)))
	}
	return visits
}

func numberOf(digits string) int {
	n := 0
	for _, digit := range digits {
		n = 10*n + int(digit-'0')
	}
	return n
}

// drawLine draws a line that mostly is written well, over few names, so that the lines of a session meet.
func drawLine(d *draws) string {
	pick := func(words ...string) string { return words[d.below(len(words))] }
	name := func() string { return pick("a", "b", "c", "d", "e", "f", "g", "h", "i", "j") }
	sector := func() string { return pick("e", "w", "n", "e", "w", "s", "t", "u", "v") }
	line := ""
	switch d.below(16) {
	case 0, 1:
		line = fmt.Sprint("cap ", sector(), " ", d.below(4))
	case 2:
		line = "drop " + name()
	case 3:
		line = "compress"
	case 4:
		line = "again"
	case 5:
		line = "slots"
	case 6:
		line = "load " + sector()
	case 7, 8:
		line = "bound " + pick("e", "w", "n")
	default:
		line = fmt.Sprint("add ", name(), " ", d.below(4), " ", d.below(15))
		after := d.below(4)
		for range 1 + d.below(4) {
			stay := 1 + d.below(5)
			line += fmt.Sprint(" ", sector(), ":", after, ":", stay)
			after += stay + d.below(2)
		}
	}
	return line
}

// spoilers are what a line may have too much or in the wrong place.
var spoilers = []string{" ", " ", ":", ":", "0", "0", "1", "9", "-", "+", "x", "e", "E", "\xff", "\xc3", "\t", "\r", "\x00"}

// spoil changes, puts in or takes away some byte of a line.
func spoil(d *draws, line string) string {
	at := d.below(len(line) + 1)
	drawn := spoilers[d.below(len(spoilers))]
	switch {
	case at == len(line) || d.below(3) == 0:
		return line[:at] + drawn + line[at:]
	case d.below(2) == 0:
		return line[:at] + line[at+1:]
	}
	return line[:at] + drawn + line[at+1:]
}

// drawSession draws lines, of which one of eight is spoilt.
func drawSession(d *draws, n int) []string {
	var lines []string
	for range n {
		line := drawLine(d)
		if d.below(8) == 0 {
			line = spoil(d, line)
		}
		lines = append(lines, line)
	}
	return lines
}

func TestSessionDrawn(t *testing.T) {
	d := draws(31)
	answers := map[string]int{}
	for range 400 {
		text := textOf(drawSession(&d, d.below(60))...)
		got := impl.FlowSession(text)
		if want := playSlowly(text); got != want {
			t.Fatalf("%q is answered %q, not %q", text, got, want)
		}
		for answer := range strings.Lines(got) {
			answers[answer]++
		}
	}
	for _, answer := range []string{"ok", "no", "bad", "none", "code 0", "code 2", "code 3", "code 4", "0", "1", "late 0"} {
		if answers[answer+"\n"] < 5 {
			t.Errorf("the draws tell little: %q is answered %d times", answer, answers[answer+"\n"])
		}
	}
}

// TestSessionSpoilt has each byte of some lines left out, doubled, or another in its place.
func TestSessionSpoilt(t *testing.T) {
	before := textOf(busySession...)
	for _, line := range append(slices.Clone(busySession), "cap z 20", "drop a", "load e", "bound w", "compress", "again", "slots", "add zz 10 20 e:10:20 w:30:10") {
		for at := range len(line) {
			spoilt := []string{line[:at] + line[at+1:], line[:at] + line[at:at+1] + line[at:]}
			for _, b := range []string{" ", ":", "0", "1", "-", "+", "a", "A", "\xff", "\x00", "\t", "\n"} {
				spoilt = append(spoilt, line[:at]+b+line[at+1:], line[:at]+b+line[at:])
			}
			for _, s := range spoilt {
				text := before + s + "\nslots\nload e\nload w\n"
				wantText(t, text, playSlowly(text))
			}
		}
	}
}

// TestSessionFirstLines is P8: whatever stands behind them, first lines are answered alike.
func TestSessionFirstLines(t *testing.T) {
	d := draws(32)
	for range 60 {
		lines := drawSession(&d, 40)
		all := strings.SplitAfter(impl.FlowSession(textOf(lines...)), "\n")
		if len(all) != len(lines)+1 {
			t.Fatalf("%d lines have %d answers", len(lines), len(all)-1)
		}
		for n := range len(lines) + 1 {
			first, want := textOf(lines[:n]...), strings.Join(all[:n], "")
			wantText(t, first, want)
			for _, behind := range []string{"\n", "x", "\xff", "too long", textOf(drawSession(&d, 3)...), strings.Repeat("\n", impl.FlowMaxLines-n), strings.Repeat("z", impl.FlowMaxSession-len(first))} {
				if got := impl.FlowSession(first + behind); !strings.HasPrefix(got, want) {
					t.Fatalf("%q with %q behind is answered %q, which does not begin with %q", first, behind, got, want)
				}
			}
			wantText(t, first+strings.Repeat("\n", impl.FlowMaxLines-n+1), "too long\n")
			wantText(t, first+strings.Repeat("z", impl.FlowMaxSession-len(first)+1), "too long\n")
		}
	}
}

// TestSessionAnyBytes has texts of any bytes: each of their lines has an answer, and the answer is the document's.
func TestSessionAnyBytes(t *testing.T) {
	d := draws(33)
	for range 2000 {
		text := make([]byte, d.below(120))
		for i := range text {
			text[i] = byte(d.below(256))
			if d.below(8) == 0 {
				text[i] = '\n'
			}
		}
		wantText(t, string(text), playSlowly(string(text)))
	}
	for b := range 256 {
		for _, text := range []string{"B", "Bslots", "slotsB", "sloBts", "capBe 1", "cap Be 1", "cap eB 1", "cap e B", "cap e 1B", "add a 0 9 e:B:1", "add a 0 9 eB0:1", "add B 0 9 B:0:1\nslots"} {
			text = strings.ReplaceAll(text, "B", string([]byte{byte(b)}))
			wantText(t, text, playSlowly(text))
		}
	}
}

// TestSessionKeepsNothing plays sessions one behind the other and beside each other: each begins with an empty book.
func TestSessionKeepsNothing(t *testing.T) {
	d := draws(34)
	var texts, wants []string
	for range 8 {
		texts = append(texts, textOf(drawSession(&d, 50)...))
		wants = append(wants, playSlowly(texts[len(texts)-1]))
	}
	var playing sync.WaitGroup
	wrong := make([]int, len(texts))
	for i := range texts {
		playing.Go(func() {
			for k := range 2 * len(texts) {
				at := (i + k) % len(texts)
				if impl.FlowSession(texts[at]) != wants[at] {
					wrong[i]++
				}
			}
		})
	}
	playing.Wait()
	if slices.Max(wrong) > 0 {
		t.Errorf("sessions beside each other are answered otherwise than alone: %v", wrong)
	}
	wantText(t, "slots\nload e\nbound e\n", "late 0\nnone\n0\n")
}

// sessionFuncs are the functions and methods of the program's file of sessions, by their names.
func sessionFuncs(t *testing.T) map[string]*ast.FuncDecl {
	t.Helper()
	file, err := parser.ParseFile(token.NewFileSet(), "../impl/l6_session.go", nil, 0)
	if err != nil {
		t.Fatal(err)
	}
	funcs := map[string]*ast.FuncDecl{}
	for _, d := range file.Decls {
		if f, ok := d.(*ast.FuncDecl); ok {
			funcs[f.Name.Name] = f
		}
	}
	for _, name := range []string{"init", "commandOf", "FlowSession"} {
		if funcs[name] == nil {
			t.Fatalf("there is no %s", name)
		}
	}
	return funcs
}

// filledByInit is what init puts into commands, by their words.
func filledByInit(f *ast.FuncDecl) map[string]string {
	filled := map[string]string{}
	for _, s := range f.Body.List {
		if a, ok := s.(*ast.AssignStmt); ok && len(a.Lhs) == 1 {
			if to, ok := a.Lhs[0].(*ast.IndexExpr); ok && types.ExprString(to.X) == "commands" {
				filled[types.ExprString(to.Index)] = types.ExprString(a.Rhs[0])
			}
		}
	}
	return filled
}

// toldByCase is what each case of a function returns, by its word.
func toldByCase(f *ast.FuncDecl) map[string]string {
	told := map[string]string{}
	ast.Inspect(f, func(n ast.Node) bool {
		if c, ok := n.(*ast.CaseClause); ok && len(c.List) == 1 && len(c.Body) == 1 {
			if r, ok := c.Body[0].(*ast.ReturnStmt); ok && len(r.Results) == 1 {
				told[types.ExprString(c.List[0])] = types.ExprString(r.Results[0])
			}
		}
		return true
	})
	return told
}

// usesOfCommands are how often a function names commands, and how often it asks for their number alone.
func usesOfCommands(f *ast.FuncDecl) (named, counted int) {
	ast.Inspect(f, func(n ast.Node) bool {
		switch x := n.(type) {
		case *ast.Ident:
			if x.Name == "commands" {
				named++
			}
		case *ast.CallExpr:
			if types.ExprString(x) == "len(commands)" {
				counted++
			}
		}
		return true
	})
	return named, counted
}

// TestSessionCommandsStand looks at how the program is written, as no answer shows it: init fills commands with what
// commandOf tells of each word, FlowSession reads them, and nothing that is played comes out of them.
func TestSessionCommandsStand(t *testing.T) {
	funcs := sessionFuncs(t)
	filled, told := filledByInit(funcs["init"]), toldByCase(funcs["commandOf"])
	if len(filled) != 8 || !maps.Equal(filled, told) {
		t.Errorf("init fills commands with %v, and commandOf tells %v", filled, told)
	}
	if named, _ := usesOfCommands(funcs["FlowSession"]); named == 0 {
		t.Error("FlowSession does not read commands")
	}
	for name, f := range funcs {
		if named, counted := usesOfCommands(f); name != "init" && named != counted {
			t.Errorf("%s takes more of commands than their number", name)
		}
	}
}
