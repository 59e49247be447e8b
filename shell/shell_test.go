package shell_test

import (
	"bytes"
	"math"
	"slices"
	"strconv"
	"strings"
	"testing"

	"spoor/api"
	"spoor/follow"
	"spoor/script"
	"spoor/shell"
)

// set makes a rule set of names and texts by turns; a last one alone is the continuation pattern.
func set(l ...string) api.Set {
	var s api.Set
	for ; len(l) > 1; l = l[2:] {
		s.Rules = append(s.Rules, api.Pattern{Name: l[0], Text: l[1]})
	}
	if len(l) == 1 {
		s.Cont = l[0]
	}
	return s
}

func load(l ...string) api.Step {
	return api.Step{Kind: api.FLoad, Set: set(l...)}
}

func same(a, b api.Step) bool {
	return a.Kind == b.Kind && a.N == b.N && a.Name == b.Name && a.To == b.To && bytes.Equal(a.Data, b.Data) && slices.Equal(a.Set.Rules, b.Set.Rules) && a.Set.Cont == b.Set.Cont
}

func TestLinesAndSteps(t *testing.T) {
	long := strings.Repeat("n", 1993)
	for _, c := range []struct {
		line string
		s    api.Step
	}{
		{`create log`, api.Step{Kind: api.WCreate, Name: "log"}},
		{`create create`, api.Step{Kind: api.WCreate, Name: "create"}},
		{`create !#~\`, api.Step{Kind: api.WCreate, Name: `!#~\`}},
		{`create ` + long, api.Step{Kind: api.WCreate, Name: long}},
		{`remove 0`, api.Step{Kind: api.WRemove, Name: "0"}},
		{`append log ""`, api.Step{Kind: api.WAppend, Name: "log"}},
		{`append log "a b"`, api.Step{Kind: api.WAppend, Name: "log", Data: []byte("a b")}},
		{`append log "a\x00\n"`, api.Step{Kind: api.WAppend, Name: "log", Data: []byte("a\x00\n")}},
		{`append log "\xff\""`, api.Step{Kind: api.WAppend, Name: "log", Data: []byte("\xff\"")}},
		{`append log "\\\n\t\r\x7f\x1f~ !#"`, api.Step{Kind: api.WAppend, Name: "log", Data: []byte("\\\n\t\r\x7f\x1f~ !#")}},
		{`append log "\xc3\xa9"`, api.Step{Kind: api.WAppend, Name: "log", Data: []byte("é")}},
		{`rename a b`, api.Step{Kind: api.WRename, Name: "a", To: "b"}},
		{`rename a a`, api.Step{Kind: api.WRename, Name: "a", To: "a"}},
		{`cut log 0`, api.Step{Kind: api.WCut, Name: "log"}},
		{`cut 01 10`, api.Step{Kind: api.WCut, Name: "01", N: 10}},
		{`poll`, api.Step{Kind: api.FPoll}},
		{`open`, api.Step{Kind: api.FOpen}},
		{`query 0`, api.Step{Kind: api.FQuery}},
		{`query 4611686018427387904`, api.Step{Kind: api.FQuery, N: 1 << 62}},
		{`crash 12`, api.Step{Kind: api.FCrash, N: 12}},
		{`load`, load()},
		{`load a "x+"`, load("a", "x+")},
		{`load a "x+" cont "^ "`, load("a", "x+", "^ ")},
		{`load cont "a"`, load("a")},
		{`load cont "a" cont "b"`, load("cont", "a", "b")},
		{`load cont "a" b "c"`, load("cont", "a", "b", "c")},
		{`load cont "" b "c"`, load("cont", "", "b", "c")},
		{`load a "" a "" cont "\""`, load("a", "", "a", "", "\"")},
		{`load load "cont" cont "cont"`, load("load", "cont", "cont")},
	} {
		got, e := shell.Parse(c.line)
		if e != api.OK || !same(got, c.s) {
			t.Errorf("Parse(`%s`): %v, %d", c.line, got, e)
		}
		if line := shell.Line(c.s); line != c.line {
			t.Errorf("Line(%v): `%s`, not `%s`", c.s, line, c.line)
		}
	}
	// Quoted words may be written in more ways than one.
	for line, want := range map[string]string{
		`append log "\x61\x20\x22\x0a"`: `append log "a \"\n"`, `load a "\x78" cont "\x5e\x09"`: `load a "x" cont "^\t"`, `append log "\x7e\x5c\x0d"`: `append log "~\\\r"`,
	} {
		s, e := shell.Parse(line)
		if e != api.OK || shell.Line(s) != want {
			t.Errorf("Line of Parse(`%s`): `%s`, %d", line, shell.Line(s), e)
		}
	}
}

func TestParseErrors(t *testing.T) {
	for _, line := range []string{
		``, ` `, `poll `, ` poll`, `poll  `, "poll\n", "\tpoll", "poll\r", `Poll`, `polls`, `poll 1`, `poll poll`, `open ""`, `"poll"`, `""`, `"`, `x`, `0`, "\x00", "é", "poll\x7f",
		`create`, `create `, `create a b`, `create  a`, `create "a"`, `create a"b`, `create é`, "create a\tb", "create \x7f", `remove`, `remove a b`, `remove "a"`, `create a "b"`,
		`append`, `append log`, `append log a`, `append "log" "a"`, `append log "a" "b"`, `append log "a"b`, `append log "a`, `append log "a\"`, `append log "a" `, `append log  "a"`, `append log "a"b"`, `append log a"b"`,
		`append log "\q"`, `append log "\x"`, `append log "\x0"`, `append log "\x0g"`, `append log "\x0:"`, `append log "\x/0"`, `append log "\xFF"`, `append log "\x0`, `append log "\`, `append log "\X00"`, `append log "\'"`, `append log "\u0041"`, `append log "\0"`, "append log \"\t\"", "append log \"\x7f\"", "append log \"é\"", "append log \"\n\"", `append log "\ "`, `append log "\xx0"`,
		`rename a`, `rename a b c`, `rename a "b"`, `rename "a" b`, `rename`,
		`cut log`, `cut log 01`, `cut log 00`, `cut log -1`, `cut log +1`, `cut log 1x`, `cut log 1:`, `cut log 1/`, `cut log x`, `cut log "1"`, `cut log 1 2`, `cut log 4611686018427387905`, `cut log 9223372036854775808`, `cut log 18446744073709551617`, `cut log 46116860184273879040`, `cut log 1_0`, `cut log 0x1`, `cut log 1.0`,
		`query`, `query x`, `query 01`, `query -0`, `query 1 2`, `query "1"`, `crash`, `crash -1`, `crash 1 1`, `crash ١`,
		`load a`, `load "a" "b"`, `load a b`, `load a "x" b`, `load a "x" cont`, `load cont ""`, `load a "x" cont ""`, `load a "x" cont b`, `load "x"`, `load cont`, `load a "x" "y"`, `load a "x" cont "y" "z"`,
	} {
		if s, e := shell.Parse(line); e != api.ErrForm || !same(s, api.Step{}) {
			t.Errorf("Parse(%q): %v, %d", line, s, e)
		}
	}
	if s, e := shell.Parse("create " + strings.Repeat("n", 1994)); e != api.ErrLong || !same(s, api.Step{}) {
		t.Error(s, e)
	}
	if _, e := shell.Parse(strings.Repeat(" ", 2001)); e != api.ErrLong {
		t.Error(e)
	}
	if _, e := shell.Parse(strings.Repeat(" ", 2000)); e != api.ErrForm {
		t.Error(e)
	}
}

func TestStepsWithoutALine(t *testing.T) {
	for i, s := range []api.Step{
		{}, {Kind: -1}, {Kind: 11}, {Kind: math.MaxInt},
		{Kind: api.WCreate}, {Kind: api.WCreate, Name: "a b"}, {Kind: api.WCreate, Name: "é"}, {Kind: api.WCreate, Name: "a\n"}, {Kind: api.WCreate, Name: `"a"`}, {Kind: api.WCreate, Name: `a"`}, {Kind: api.WCreate, Name: " a"}, {Kind: api.WCreate, Name: "a "},
		{Kind: api.WCreate, Name: "a", N: 1}, {Kind: api.WCreate, Name: "a", To: "b"}, {Kind: api.WCreate, Name: "a", Data: []byte("x")}, {Kind: api.WCreate, Name: "a", Set: set("c")}, {Kind: api.WCreate, Name: "a", Set: set("c", "d")},
		{Kind: api.WAppend, Data: []byte("x")}, {Kind: api.WAppend, Name: `a "b"`, Data: []byte("x")}, {Kind: api.WAppend, Name: "a", N: 1}, {Kind: api.WAppend, Name: "a", To: "b"},
		{Kind: api.WRename, Name: "a"}, {Kind: api.WRename, To: "a"}, {Kind: api.WRename, Name: "a b"}, {Kind: api.WRename, Name: "a", To: "b c"}, {Kind: api.WRename, Name: "a", To: "b", N: 1}, {Kind: api.WRename, Name: "a", To: `"b"`},
		{Kind: api.WCut, Name: "a", N: -1}, {Kind: api.WCut, Name: "a", N: 1<<62 + 1}, {Kind: api.WCut, N: 1}, {Kind: api.WCut, Name: "a", N: math.MinInt}, {Kind: api.WCut, Name: "a", N: math.MaxInt}, {Kind: api.WCut, Name: "a 1", N: 1},
		{Kind: api.WRemove, Name: "a", N: 1}, {Kind: api.WRemove},
		{Kind: api.FPoll, N: 1}, {Kind: api.FPoll, Name: "a"}, {Kind: api.FOpen, Data: []byte{0}}, {Kind: api.FOpen, To: "x"}, {Kind: api.FPoll, Set: set("c")},
		{Kind: api.FQuery, N: -1}, {Kind: api.FCrash, N: -1}, {Kind: api.FQuery, Name: "a"}, {Kind: api.FCrash, N: 1<<62 + 1},
		{Kind: api.FLoad, N: 1}, {Kind: api.FLoad, Name: "a"}, load("", "x"), load("a b", "x"), load(`"a"`, "x"), load(`a "x" b`, "y"), load("cont", "x"), load("cont", ""), load("a", "x", "cont", "y"), load("é", "x"),
		{Kind: api.WCreate, Name: strings.Repeat("n", 1994)}, {Kind: api.WAppend, Name: "a", Data: make([]byte, 500)}, {Kind: api.WAppend, Name: "a", Data: make([]byte, 100000)},
	} {
		if line := shell.Line(s); line != "" {
			t.Errorf("case %d: `%s`", i, line)
		}
	}
}

func TestAllBytes(t *testing.T) {
	for c := range 256 {
		s := api.Step{Kind: api.WAppend, Name: "a", Data: []byte{byte(c), 'z'}}
		want := string([]byte{byte(c)})
		switch {
		case c == '"' || c == '\\':
			want = `\` + want
		case c == '\n':
			want = `\n`
		case c == '\t':
			want = `\t`
		case c == '\r':
			want = `\r`
		case c < 16:
			want = `\x0` + strconv.FormatInt(int64(c), 16)
		case c < 32 || c > 126:
			want = `\x` + strconv.FormatInt(int64(c), 16)
		}
		line := shell.Line(s)
		if line != `append a "`+want+`z"` {
			t.Errorf("byte %d: `%s`", c, line)
		}
		if got, e := shell.Parse(line); e != api.OK || !same(got, s) {
			t.Errorf("byte %d: %v, %d", c, got, e)
		}
		// A byte stands for itself in a quoted word, and in a plain one, or it cannot be there.
		_, e := shell.Parse(`append a "` + string([]byte{byte(c)}) + `"`)
		if (e == api.OK) != (c >= 32 && c <= 126 && c != '"' && c != '\\') {
			t.Errorf("byte %d in a quoted word: %d", c, e)
		}
		_, e = shell.Parse("create a" + string([]byte{byte(c)}) + "b")
		if (e == api.OK) != (c >= 33 && c <= 126 && c != '"') {
			t.Errorf("byte %d in a plain word: %d", c, e)
		}
	}
}

// TestAnyLines changes lines: what Parse accepts, Line writes so that it is the same step.
func TestAnyLines(t *testing.T) {
	seed := uint32(1)
	roll := func(n int) int {
		seed = seed*1664525 + 1013904223
		return int(seed>>8) % n
	}
	parts := []string{"create", "append", "rename", "cut", "poll", "query", "crash", "load", "cont", " ", " ", " ", "  ", "a", "0", "17", "01", `"x"`, `""`, `"\n\x00"`, `"`, `\`, "\n", "é"}
	accepted := 0
	for range 200000 {
		line := ""
		for range 1 + roll(7) {
			line += parts[roll(len(parts))]
			if roll(3) > 0 {
				line += " "
			}
		}
		if roll(4) > 0 {
			line = strings.TrimSuffix(line, " ")
		}
		s, e := shell.Parse(line)
		if e != api.OK {
			continue
		}
		accepted++
		again, e := shell.Parse(shell.Line(s))
		if e != api.OK || !same(again, s) {
			t.Fatalf("%q: %v, %q", line, s, shell.Line(s))
		}
	}
	if accepted < 500 {
		t.Error("too little was accepted:", accepted)
	}
}

func TestShow(t *testing.T) {
	match := api.Record{Key: api.Key{Ino: 1, Gen: 2, At: 30, Rule: "a.b"}, Kind: api.FMatch, Caps: api.Caps{4, 56, 7, 8}}
	long := api.Record{Key: api.Key{Ino: 12, Gen: 1, At: 0}, Kind: api.FLong}
	for _, c := range []struct {
		o    script.Out
		want string
	}{
		{script.Out{}, ""},
		{script.Out{Why: api.ErrNone}, "error 7 0\n"},
		{script.Out{Why: api.ErrForm, At: 3}, "error 4 3\n"},
		{script.Out{At: 3}, ""},
		{script.Out{Told: []follow.Told{{Ino: 9, Why: api.ErrMany}, {Ino: 10, Why: api.ErrFull}}}, "told 9 13\ntold 10 9\n"},
		{script.Out{Records: []api.Record{match, long}}, "match 1 2 30 a.b 4 56\nlong 12 1 0\n"},
		{script.Out{Records: []api.Record{{Key: match.Key, Kind: 7}, {Key: api.Key{Ino: -1, Gen: -2, At: math.MinInt}, Kind: 0}}}, "long 1 2 30\nlong -1 -2 -9223372036854775808\n"},
		{script.Out{Why: -1, At: -2, Told: []follow.Told{{}}, Records: []api.Record{match}}, "error -1 -2\ntold 0 0\nmatch 1 2 30 a.b 4 56\n"},
		{script.Out{Records: []api.Record{{Key: api.Key{Rule: "r"}, Kind: api.FMatch, Caps: api.Caps{-1, -1}}}}, "match 0 0 0 r -1 -1\n"},
	} {
		if got := shell.Show(c.o); got != c.want {
			t.Errorf("Show(%v): %q, not %q", c.o, got, c.want)
		}
	}
}

func TestRun(t *testing.T) {
	text := "load a \"x+\"\ncreate log\nappend log \"ax\\n\"\npoll\nquery 0\n"
	for _, s := range []string{text, strings.TrimSuffix(text, "\n")} {
		if out, n, e := shell.Run(s); out != "match 1 1 0 a 1 2\n" || n != 0 || e != api.OK {
			t.Errorf("%q, %d, %d", out, n, e)
		}
	}
	for _, c := range []struct {
		text, out string
		n         int
		e         api.Errno
	}{
		{"", "", 0, api.OK}, {"poll", "", 0, api.OK}, {"poll\n", "", 0, api.OK}, {"\n", "", 0, api.ErrForm}, {"poll\n\n", "", 1, api.ErrForm}, {"\npoll", "", 0, api.ErrForm}, {"poll\nx\ny\n", "", 1, api.ErrForm}, {"poll\r\npoll", "", 0, api.ErrForm},
		{"create a\ncreate " + strings.Repeat("n", 2000) + "\nx", "", 1, api.ErrLong}, {"remove q\ncreate a\ncreate a\n", "error 7 0\nerror 8 0\n", 0, api.OK},
		{"load a \"x\" b \"(\"\nload a \"x\"\nload a \"x\"\nquery 0\n", "error 4 1\n", 0, api.OK}, {"remove q\nx", "", 1, api.ErrForm},
		{"load a \"x\"\ncreate l\nappend l \"x\\nx\\n\"\npoll\ncrash 0\nquery 0\npoll\nquery 1\ncrash 9\nopen\nquery 0\n", "match 1 1 2 a 0 1\nmatch 1 1 0 a 0 1\nmatch 1 1 2 a 0 1\n", 0, api.OK},
		{strings.Repeat("poll\n", 1000), "", 0, api.OK}, {strings.Repeat("poll\n", 999) + "poll", "", 0, api.OK}, {strings.Repeat("remove q\n", 1001), "", 1000, api.ErrLong}, {strings.Repeat("poll\n", 1000) + "x", "", 1000, api.ErrLong}, {strings.Repeat("poll\n", 1000) + "\n", "", 1000, api.ErrLong},
		{strings.Repeat("poll\n", 999) + "x\n", "", 999, api.ErrForm}, {strings.Repeat("poll\n", 999) + "x\npoll\npoll\n", "", 999, api.ErrForm}, {strings.Repeat("poll\n", 5000), "", 1000, api.ErrLong},
	} {
		out, n, e := shell.Run(c.text)
		if out != c.out || n != c.n || e != c.e {
			t.Errorf("Run of %.60q..: %q, %d, %d", c.text, out, n, e)
		}
	}
}

func TestRunsDoNotAffectOneAnother(t *testing.T) {
	for range 2 {
		if out, _, _ := shell.Run("create a\nappend a \"" + strings.Repeat("y", 300) + "\"\nload\npoll\nquery 0"); out != "long 1 1 0\n" {
			t.Errorf("%q", out)
		}
	}
}

func TestMemory(t *testing.T) {
	s, _ := shell.Parse(`append a "bc"`)
	for i := range s.Data[:cap(s.Data)] {
		s.Data[:cap(s.Data)][i] = 'x'
	}
	if again, _ := shell.Parse(`append a "bc"`); string(again.Data) != "bc" {
		t.Error(again)
	}
	data := append(make([]byte, 0, 9), "bc"...)
	shell.Line(api.Step{Kind: api.WAppend, Name: "a", Data: data})
	if string(data[:3]) != "bc\x00" {
		t.Error("the argument was changed")
	}
}
