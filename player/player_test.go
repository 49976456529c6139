package player_test

import (
	"strconv"
	"strings"
	"testing"
	"time"

	"fretwork/api"
	"fretwork/iso"
	"fretwork/player"
	"fretwork/samples"
)

// plays plays lines by a new player: each with what shall be told behind an arrow, or the error's number.
func plays(t *testing.T, lines string) {
	t.Helper()
	p := player.New()
	for _, l := range strings.Split(lines, ";") {
		line, want, _ := strings.Cut(strings.TrimSpace(l), " ->")
		want = strings.TrimSpace(want)
		told, e := p.Play(line)
		if e != api.OK {
			if told != "" {
				t.Errorf("%q beside an error: %q", line, told)
			}
			told = "error " + strconv.Itoa(int(e))
		}
		if told != want {
			t.Errorf("%q: %q, not %q", line, told, want)
		}
	}
}

func TestTenExamples(t *testing.T) {
	for _, lines := range []string{
		"let a 3 0-1 1-2 -> 3 2; call b a 1 0 2 -> 3 2; same a b -> yes; cuts a -> 1; cuts b -> 0; maps a -> 2; orbits a -> 0 2 / 1",
		"let a 4 0-1 1-2 2-3 3-0 -> 4 4; plane a -> plane 2; blocks a -> 4; maps a -> 8; less b a 0-1 -> 4 3; same a b -> no; maps b -> 2",
		"let a 5 0-1 0-2 0-3 0-4 1-2 1-3 1-4 2-3 2-4 3-4 -> 5 10; plane a -> twist 5 0-1 0-2 0-3 0-4 1-2 1-3 1-4 2-3 2-4 3-4; put a -> error 90; less b a 3-4 -> 5 9; plane b -> plane 6; put b -> 1 new; maps b -> 12",
		"let a 6 0-3 0-4 0-5 1-3 1-4 1-5 2-3 2-4 2-5 -> 6 9; plane a -> twist 33 0-3 0-4 0-5 1-3 1-4 1-5 2-3 2-4 2-5; same a a -> error 90; less b a 0-3 -> 6 8; plane b -> plane 4; maps b -> 8",
		"let a 7 0-1 0-2 1-2 2-3 4-5 -> 7 5; parts a -> 0 1 2 3 / 4 5 / 6; cuts a -> 2; blocks a -> 3 1 1; plane a -> plane 3; maps a -> 4; orbits a -> 0 1 / 2 / 3 / 4 5 / 6",
		"let a 2 0-1 -> 2 1; put a -> 1 new; let b 2 -> 2 0; put b -> 2 new; call c a 1 0 -> 2 1; put c -> 1 old; seen 1 -> 2 2 1; find b -> 2; again -> 2; seen 2 -> 1 2 0",
		"let a 8 0-1 1-2 2-3 3-0 4-5 5-6 6-7 7-4 0-4 1-5 2-6 3-7 -> 8 12; plane a -> plane 6; blocks a -> 12; maps a -> 48; orbits a -> 0 1 2 3 4 5 6 7",
		"let a 3 0-1 1-2 2-0 -> 3 3; join b a a -> 6 6; parts b -> 0 1 2 / 3 4 5; maps b -> 72; join c b a -> 9 9; maps c -> 1296; plane c -> plane 6",
		"let a 2 0-2 -> error 20; let a 201 -> error 21; let a 2 0-1 -> 2 1; call a a 0 0 -> error 30; less a a 1-1 -> error 2; parts b -> error 261; let a 02 -> error 260; maps a -> 2",
		"let a 6 0-1 0-2 0-3 3-4 3-5 -> 6 5; cuts a -> 0 3; blocks a -> 1 1 1 1 1; plane a -> plane 1; maps a -> 8; orbits a -> 0 3 / 1 2 4 5; find a -> error 230",
		"let a 3 0-1 1-2 -> 3 2; call b a 1 0 2 -> 3 2; same a b -> yes; cuts a -> 1; cuts b -> 0; maps a -> 2; orbits a -> 0 2 / 1; put a -> 1 new; put b -> 1 old; seen 1 -> 2 3 2; join c a b -> 6 4; parts c -> 0 1 2 / 3 4 5; plane c -> plane 2; less d a 0-1 -> 3 1; less d a 0-2 -> error 2; again -> 1; hello -> error 260; parts x -> error 261",
	} {
		plays(t, lines)
	}
}

func TestNil(t *testing.T) {
	good := player.New()
	good.Play("let a 1")
	copied := *good
	for i, p := range []*player.Player{nil, {}, new(player.Player), &copied} {
		for _, line := range []string{"let b 2", "hello", ""} {
			if told, e := p.Play(line); told != "" || e != api.ErrNil {
				t.Error(i, line, told, e)
			}
		}
	}
	if _, e := good.Play("parts b"); e != api.ErrName {
		t.Error(e)
	}
}

func TestNoLines(t *testing.T) {
	p := player.New()
	p.Play("let a 2 0-1")
	for _, line := range []string{
		"", " ", "let", "let a", "let a ", "let  a 2", " let a 2", "let a 2 ", "let a 2  0-1", "let A 2", "let abcdefghi 2", "let a1 2", "let a -1", "let a +1", "let a 1.0", "let a 1000000000", "let a 00", "let a 2 0_1", "let a 2 0-", "let a 2 -1",
		"let a 2 0-01", "let a 2 0-1-2", "let a 2 0--1", "let a 2 0", "let a 2 01", "let a 2 0-1000000000", "let ä 2", "let a ２", "let a 2\n", "let\ta 2", "Let a 2", "call b", "call a", "call b a x", "call b a 1 0 ", "call 1 a", "join b a", "join b a a a", "less b a", "less b a 0 1",
		"less b a 0-1 0-1", "parts", "parts a a", "parts A", "cuts", "blocks", "plane", "same a", "same a a a", "maps", "orbits", "put", "put a a", "find", "seen", "seen a", "seen 1 1", "seen -1", "seen 01", "again a", "again ", "parts a\x00", "hello", "le a 2", "lett a 2",
	} {
		if told, e := p.Play(line); told != "" || e != api.ErrLine {
			t.Errorf("%q: %q %v", line, told, e)
		}
	}
	if told, e := p.Play("let abcdefgh 2 1-0"); told != "2 1" || e != api.OK {
		t.Error(told, e)
	}
}

func TestErrorsInOrder(t *testing.T) {
	plays(t, `parts abcdefghi -> error 260; parts x -> error 261; call b x 0 0 -> error 261; join b x y -> error 261; same x x -> error 261; less b x 5-5 -> error 261; let a 2 0-1 -> 2 1; join b a x -> error 261; same a x -> error 261;
		let b 2 0-1 1-0 -> error 20; let b 2 0-0 -> error 20; let b 999999999 -> error 21; let b 201 0-0 -> error 21; call b a 0 -> error 30; call b a -> error 30; call b a 0 1 2 -> error 30; call b a 0 999999999 -> error 30; less b a 0-5 -> error 2; less b a 0-0 -> error 2; parts b -> error 261;
		seen 0 -> error 2; seen 1 -> error 2; seen 999999999 -> error 2; find a -> error 230; let c 41 -> 41 0; maps c -> error 21; orbits c -> error 21; let d 200 -> 200 0; join e d a -> error 21; parts e -> error 261; less a a 1-0 -> 2 0; parts a -> 0 / 1; let n 0 -> 0 0; call n n -> 0 0; parts n -> ; cuts n -> ; blocks n -> ; plane n -> plane 0; maps n -> 1; orbits n -> ; put n -> 1 new; seen 1 -> 1 0 0; join a a n -> 2 0; same n n -> yes`)
}

func TestTwisted(t *testing.T) {
	plays(t, `let a 7 0-3 0-4 0-5 1-3 1-4 1-5 2-3 2-4 2-5 5-6 -> 7 10; plane a -> twist 33 0-3 0-4 0-5 1-3 1-4 1-5 2-3 2-4 2-5; maps a -> error 90; orbits a -> error 90; put a -> error 90; find a -> error 90; same a a -> error 90; cuts a -> 5; blocks a -> 9 1; parts a -> 0 1 2 3 4 5 6;
		let b 1 -> 1 0; same a b -> error 90; same b a -> error 90; again -> 0; put b -> 1 new; again -> 1; find b -> 1; seen 1 -> 1 1 0`)
}

func TestFull(t *testing.T) {
	p := player.New()
	for i := range api.MaxNames { // ya to yz, za to zd
		if _, e := p.Play("let " + string(rune('y'+i/26)) + string(rune('a'+i%26)) + " 2 0-1"); e != api.OK {
			t.Fatal(i, e)
		}
	}
	for line, want := range map[string]api.Errno{
		"let new 2 0-5": api.ErrFull, "let new 1": api.ErrFull, "call new ya 0 1": api.ErrFull, "call new zz 0 1": api.ErrName, "join new ya zd": api.ErrFull, "less new ya 0-1": api.ErrFull, "less new ya 0-7": api.ErrFull, "let New 1": api.ErrLine,
		"let ya 2": api.OK, "let ya 2 0-5": api.ErrGraph, "call ya ya 1 0": api.OK, "parts zd": api.OK, "parts new": api.ErrName,
	} {
		if _, e := p.Play(line); e != want {
			t.Errorf("%q: %v", line, e)
		}
	}
}

func TestNamesChangeNothing(t *testing.T) {
	var d samples.Dice
	told := func(p *player.Player, line string) string {
		s, e := p.Play(line)
		return s + "!" + strconv.Itoa(int(e))
	}
	let := func(name string, g api.Graph) string {
		line := "let " + name + " " + strconv.Itoa(g.N)
		for _, x := range g.Edges {
			line += " " + strconv.Itoa(x[1]) + "-" + strconv.Itoa(x[0])
		}
		return line
	}
	p := player.New()
	for range 60 {
		n := 4 + d.Roll(12)
		g := d.Planar(n, d.Roll(3*n))
		if d.Roll(3) == 0 {
			g = samples.Of(n, append(d.Any(n, 3).Edges, g.Edges...)...)
		}
		called := d.Perm(n)
		line := "call b a"
		for _, v := range called {
			line += " " + strconv.Itoa(v)
		}
		if told(p, let("a", g)) != told(p, line) {
			t.Error(g)
		}
		_, e := iso.Map(g, g)
		if same := told(p, "same a b"); same != "yes!0" && e == api.OK || same != "!90" && e != api.OK {
			t.Error(g, same)
		}
		for _, word := range []string{"maps", "find", "find"} {
			if told(p, word+" a") != told(p, word+" b") {
				t.Error(g, word)
			}
			p.Play("put a")
		}
		x, _ := p.Play("plane a")
		y, _ := p.Play("plane b")
		if x[:5] != y[:5] || (x[:5] == "plane") != (e == api.OK) {
			t.Error(g, x, y)
		}
	}
}

func TestScript(t *testing.T) {
	for text, want := range map[string]string{
		"": "", "\n": "! 260\n", "let a 2 0-1": "2 1\n", "let a 2 0-1\n": "2 1\n", "let a 2 0-1\n\nparts a\nparts b": "2 1\n! 260\n0 1\n! 261\n", "let a 0\nparts a\n": "0 0\n\n", "let a 1\r\n": "! 260\n", "x\n\n": "! 260\n! 260\n",
	} {
		if told, e := player.Script(text); told != want || e != api.OK {
			t.Errorf("%q: %q %v", text, told, e)
		}
	}
	if told, e := player.Script("put a\nlet a 3\nput a\nput a"); told != "! 261\n3 0\n1 new\n1 old\n" || e != api.OK {
		t.Error(told, e)
	}
	if told, e := player.Script("put a"); told != "! 261\n" || e != api.OK {
		t.Error("a player is not new:", told, e)
	}
	if told, e := player.Script(strings.Repeat("\n", api.MaxScript)); len(told) != 6*api.MaxScript || e != api.OK {
		t.Error(len(told), e)
	}
	if told, e := player.Script(strings.Repeat("\n", api.MaxScript+1)); told != "" || e != api.ErrLong {
		t.Error(told, e)
	}
}

func TestLongScript(t *testing.T) {
	var b strings.Builder
	b.WriteString("let a 40")
	for i := range 40 {
		b.WriteString(" " + strconv.Itoa(i) + "-" + strconv.Itoa((i+1)%40))
	}
	b.WriteString("\njoin b a a\njoin c b b\njoin d c a\n")
	for range 60 {
		b.WriteString("maps a\nplane d\nput d\nsame d d\nagain\n")
	}
	begin := time.Now()
	if told, e := player.Script(b.String()); e != api.OK || strings.Contains(told, "!") {
		t.Error(e, told[:100])
	}
	if took := time.Since(begin); took > 60*time.Second {
		t.Error(took)
	}
}
