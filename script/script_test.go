package script_test

import (
	"slices"
	"strings"
	"testing"

	"blazon/api"
	"blazon/message"
	"blazon/script"
)

func TestP31_1Quote(t *testing.T) {
	for s, want := range map[string]string{
		"": `""`, "a": `"a"`, `a"b`: `"a\"b"`, `\`: `"\\"`, "\n": `"\n"`, `\n`: `"\\n"`, "a\n\"\\\x00\xff\r\t,= -": "\"a\\n\\\"\\\\\x00\xff\r\t,= -\"", `""`: `"\"\""`,
	} {
		if got := script.Quote(s); got != want {
			t.Errorf("%q: %s", s, got)
		}
		if got, e := script.Unquote(want); got != s || e != api.OK {
			t.Errorf("%s: %q %v", want, got, e)
		}
	}
	for _, s := range []string{"", `"`, "a", `"a`, `a"`, `"a"b`, ` "a"`, `"a" `, `"a""b"`, `"\"`, `"\`, `"\a"`, `"\N"`, `"\r"`, `"\0"`, "\"\n\"", "\"a\\\n\"", `"\x41"`, `"\\\"`, "-", "'a'"} {
		if got, e := script.Unquote(s); got != "" || e != api.ErrBytes {
			t.Errorf("%s: %q %v", s, got, e)
		}
	}
	all := ""
	for c := range 256 {
		all += string([]byte{byte(c)})
	}
	if got, e := script.Unquote(script.Quote(all)); got != all || e != api.OK {
		t.Errorf("%q", got)
	}
}

// at is an attribute.
func at(t, v string) api.Attr { return api.Attr{Type: t, Value: v} }

// told are operations, and their texts.
var told = []struct {
	o    api.Op
	text string
}{
	{api.Op{Kind: api.OpAdd, Name: "n"}, `add "n" -`},
	{api.Op{Kind: api.OpAdd, Name: "", Attrs: []api.Attr{at("a", ""), at("b-1", "x,y=\"z\"\n"), at("c", "\\")}}, `add "" a="",b-1="x,y=\"z\"\n",c="\\"`},
	{api.Op{Kind: api.OpModify, Name: "a b", Attrs: []api.Attr{at("b", "1"), at("a", ""), at("b", "1")}}, `modify "a b" b="1",a="",b="1"`},
	{api.Op{Kind: api.OpModify, Name: "n"}, `modify "n" -`},
	{api.Op{Kind: api.OpDelete, Name: "n"}, `delete "n"`},
	{api.Op{Kind: api.OpLookup, Name: `a"b`}, `look "a\"b"`},
	{api.Op{Kind: api.OpRename, Name: "n", To: " t "}, `rename "n" " t "`},
	{api.Op{Kind: api.OpCompare, Name: "n", Attrs: []api.Attr{at("cn", "a b")}}, `compare "n" cn="a b"`},
	{api.Op{Kind: api.OpSearch}, `search - - 0`},
	{api.Op{Kind: api.OpSearch, Parts: []string{""}, N: 1000}, `search "" - 1000`},
	{api.Op{Kind: api.OpSearch, Parts: []string{"a,b", "", "-"}, Cursor: []byte("\x01\xffz"), N: 7}, `search "a,b","","-" 01ff7a 7`},
	{api.Op{Kind: api.OpPage}, `page - 0`},
	{api.Op{Kind: api.OpPage, Cursor: []byte{0}, N: 10}, `page 00 10`},
}

func TestP31_1Ops(t *testing.T) {
	for _, x := range told {
		if s, e := script.OpText(x.o); s != x.text || e != api.OK {
			t.Errorf("%v: %s %v", x.o, s, e)
		}
		if o, e := script.OpOf(x.text); !message.SameOp(o, x.o) || e != api.OK {
			t.Errorf("%s: %v %v", x.text, o, e)
		}
	}
	long := strings.Repeat("a", api.MaxText+1)
	for _, o := range []api.Op{{}, {Kind: 9}, {Kind: api.OpAdd, Name: "\xff"}, {Kind: api.OpAdd, Name: long}, {Kind: api.OpAdd, Attrs: []api.Attr{at("b", ""), at("a", "")}}, {Kind: api.OpCompare}, {Kind: api.OpLookup, N: 1}, {Kind: api.OpPage, N: 1001}, {Kind: api.OpPage, N: -1}, {Kind: api.OpSearch, Parts: make([]string, 9)}} {
		if s, e := script.OpText(o); s != "" || e != api.ErrArg {
			t.Errorf("%.60v: %s %v", o, s, e)
		}
	}
	for _, s := range []string{
		"", " ", "add", `add `, `add "n"`, `add "n" `, `add  "n" -`, ` add "n" -`, `add "n" - `, `add "n"  -`, `Add "n" -`, `added "n" -`, `add n -`, `add "n" -,a="1"`, `add "n" a="1",-`, `add "n" a="1",`, `add "n" ,a="1"`, `add "n" a="1", b="2"`, `add "n" a ="1"`, `add "n" a= "1"`, `add "n" a=1`, `add "n" a`, `add "n" ="1"`, `add "n" A="1"`, `add "n" a="1" b="2"`, `add "n" b="1",a="1"`, `add "n" a="1",a="1"`, `add "n" --`,
		"add \"\xff\" -", `add "` + long + `" -`, "look \"n\"\n", "look \"a\nb\"", `look`, `look "n" -`, `look "n" "m"`, `lookup "n"`, `delete n`, `rename "n"`, `rename "n" "m" "o"`, `rename "n","m"`, `compare "n" -`, `compare "n"`, `compare "n" a="1",b="2"`, `modify "n"`,
		`search`, `search - -`, `search - - 00`, `search - - 01`, `search - - +1`, `search - - -1`, `search - - 1001`, `search - - 99999999999999999999`, `search - - 18446744073709551616`, `search - - 1 `, `search -  - 1`, `search "a" - 1 1`, `search "a",- - 1`, `search "a", - 1`, `search a - 1`, `search "","","","","","","","","" - 1`, `search - 0 1`, `search - 0G 1`, `search - 0A 1`, `search - 1 1`, `search - 012 1`, `search -  1`, `search - -- 1`, `search - 0x01 1`,
		`page`, `page -`, `page - `, `page 1`, `page - x`, `page 0a 1 `, `page " " 1`, `page 0A 1`, `page - 1.0`, `page - 1001`, `page ` + strings.Repeat("00", 4001) + ` 1`,
	} {
		if o, e := script.OpOf(s); !message.SameOp(o, api.Op{}) || e != api.ErrBytes {
			t.Errorf("%.60q: %v %v", s, o, e)
		}
	}
	if o, e := script.OpOf(`page ` + strings.Repeat("00", 4000) + ` 1`); len(o.Cursor) != 4000 || e != api.OK {
		t.Error(e)
	}
}

// acts are acts, and their texts.
var acts = []struct {
	a    api.Act
	text string
}{
	{api.Act{Kind: api.ActAsk, Who: 1, Op: api.Op{Kind: api.OpLookup, Name: `a"b`}}, `ask 1 look "a\"b"`},
	{api.Act{Kind: api.ActAsk, Op: api.Op{Kind: api.OpSearch}}, `ask 0 search - - 0`},
	{api.Act{Kind: api.ActCarry}, `carry 0`}, {api.Act{Kind: api.ActCarry, N: 1000000}, `carry 1000000`},
	{api.Act{Kind: api.ActTick, Who: 6}, `tick 6`}, {api.Act{Kind: api.ActRetry, Who: 2}, `retry 2`}, {api.Act{Kind: api.ActOff}, `off 0`},
	{api.Act{Kind: api.ActOn, Who: 3, Nonce: 1<<64 - 1}, `on 3 18446744073709551615`}, {api.Act{Kind: api.ActOn}, `on 0 0`},
	{api.Act{Kind: api.ActBytes, Who: 4}, `bytes 4 -`}, {api.Act{Kind: api.ActBytes, Who: 5, Bytes: []byte("\x00\xfea")}, `bytes 5 00fe61`},
	{api.Act{Kind: api.ActCarryAll}, `all`},
}

func TestP31_2Acts(t *testing.T) {
	for i, x := range acts {
		if s, e := script.ActText(x.a); s != x.text || e != api.OK || !script.MayAct(x.a) {
			t.Errorf("%v: %s %v", x.a, s, e)
		}
		if a, e := script.ActOf(x.text); !script.SameAct(a, x.a) || e != api.OK {
			t.Errorf("%s: %v %v", x.text, a, e)
		}
		for j, y := range acts {
			if script.SameAct(x.a, y.a) != (i == j) {
				t.Errorf("%v, %v", x.a, y.a)
			}
		}
	}
	for _, a := range []api.Act{
		{}, {Kind: 9}, {Kind: -1}, {Kind: api.ActAsk, Who: 1}, {Kind: api.ActAsk, Who: -1, Op: told[0].o}, {Kind: api.ActAsk, Who: 7, Op: told[0].o}, {Kind: api.ActAsk, Op: told[0].o, N: 1}, {Kind: api.ActAsk, Op: api.Op{Kind: api.OpPage, N: 1001}},
		{Kind: api.ActCarry, N: -1}, {Kind: api.ActCarry, N: 1000001}, {Kind: api.ActCarry, Who: 1}, {Kind: api.ActCarry, Nonce: 1}, {Kind: api.ActTick, Who: 7}, {Kind: api.ActTick, Who: -1}, {Kind: api.ActTick, N: 1}, {Kind: api.ActTick, Op: told[0].o}, {Kind: api.ActRetry, Nonce: 1}, {Kind: api.ActOff, Bytes: []byte{1}},
		{Kind: api.ActOn, N: 1}, {Kind: api.ActOn, Who: 7}, {Kind: api.ActBytes, Nonce: 1}, {Kind: api.ActBytes, Bytes: make([]byte, api.MaxTold+1)}, {Kind: api.ActCarryAll, Who: 1}, {Kind: api.ActCarryAll, N: 1},
	} {
		if s, e := script.ActText(a); s != "" || e != api.ErrArg || script.MayAct(a) {
			t.Errorf("%.60v: %.60s %v", a, s, e)
		}
	}
	for _, s := range []string{
		"", "all ", " all", "All", "all 1", "ask", "ask 1", "ask 1 ", `ask 7 look "a"`, `ask  1 look "a"`, `ask 1  look "a"`, `ask 01 look "a"`, `ask 1 look a`, `ask 1 all`, "ask 1 look \"a\"\n", `ask look "a"`, "carry", "carry ", "carry -1", "carry 1000001", "carry 01", "carry 1 ", "carry 1 1", "carry x", "carry 18446744073709551617",
		"tick", "tick 7", "tick -", "tick 00", "tick 1 1", "retry", "retry x", "off", "off 10", "on", "on 1", "on 1 ", "on 1 01", "on 1 18446744073709551616", "on 1 99999999999999999999", "on 1 -1", "bytes", "bytes 1", "bytes 1 ", "bytes 1 0", "bytes 1 0A", "bytes 1 00 ", "bytes 1 00 00", "bytes 1 --", "bytes 1 " + strings.Repeat("00", api.MaxTold+1), "tables", "nothing",
	} {
		if a, e := script.ActOf(s); !script.SameAct(a, api.Act{}) || e != api.ErrBytes {
			t.Errorf("%.60q: %v %v", s, a, e)
		}
	}
	most := api.Act{Kind: api.ActBytes, Bytes: make([]byte, api.MaxTold)}
	if s, e := script.ActText(most); e != api.OK || len(s) != 8+2*api.MaxTold {
		t.Error(len(s), e)
	} else if a, e := script.ActOf(s); e != api.OK || !script.SameAct(a, most) {
		t.Error(e)
	}
	if !script.SameAct(api.Act{Bytes: []byte{}, Op: api.Op{Parts: []string{}}}, api.Act{}) {
		t.Error("nil and empty lists are one")
	}
}

func TestP31_2SameAct(t *testing.T) {
	base := api.Act{Kind: api.ActAsk, Who: 1, N: 2, Op: api.Op{Kind: api.OpAdd, Attrs: []api.Attr{at("a", "b")}}, Nonce: 3, Bytes: []byte{4}}
	for i, change := range []func(a *api.Act){
		func(a *api.Act) { a.Kind++ }, func(a *api.Act) { a.Who++ }, func(a *api.Act) { a.N++ }, func(a *api.Act) { a.Op = api.Op{Kind: api.OpAdd} }, func(a *api.Act) { a.Nonce++ }, func(a *api.Act) { a.Bytes = []byte{5} },
	} {
		other := base
		if change(&other); script.SameAct(base, other) || !script.SameAct(base, base) {
			t.Errorf("%d", i)
		}
	}
}

func TestP31_2Names(t *testing.T) {
	over := script.Names()
	for range 2 {
		var words []string
		for k, word := range over {
			if k != api.ActKind(len(words)+1) {
				t.Errorf("%d: %s", k, word)
			}
			words = append(words, word)
		}
		if !slices.Equal(words, []string{"ask", "carry", "tick", "retry", "off", "on", "bytes", "all"}) {
			t.Error(words)
		}
	}
	many := 0
	for k := range over {
		if many++; k == api.ActTick {
			break
		}
	}
	if many != 3 {
		t.Error(many)
	}
}

// setup is a setup that may be told.
func setup() api.Setup {
	return api.Setup{F: 1, Clients: 2, Every: 10, Quota: api.Quota{Entries: 9, Bytes: 100}, Options: api.Options{Levels: 3}, Tables: api.Tables{Data: "a\nb", Exclusions: "", Folding: `c"\`, Weights: "d;\xff"}}
}

func TestP31_3Tables(t *testing.T) {
	const want = `tables "a\nb" "" "c\"\\" "d;` + "\xff\""
	if s, e := script.TablesText(setup().Tables); s != want || e != api.OK {
		t.Errorf("%q %v", s, e)
	}
	if x, e := script.TablesOf(want); x != setup().Tables || e != api.OK {
		t.Error(x, e)
	}
	if x, e := script.TablesOf(`tables "" "" "" ""`); x != (api.Tables{}) || e != api.OK {
		t.Error(x, e)
	}
	for _, s := range []string{"", "tables", `tables "" "" ""`, `tables "" "" "" "" ""`, `tables "" "" "" "" `, ` tables "" "" "" ""`, `tables  "" "" "" ""`, `Tables "" "" "" ""`, `tables "" "" "" x`, `tables "","","",""`, `tables - - - -`, "tables \"\n\" \"\" \"\" \"\"", `tables """" "" ""`} {
		if x, e := script.TablesOf(s); x != (api.Tables{}) || e != api.ErrBytes {
			t.Errorf("%q: %v %v", s, x, e)
		}
	}
	long := strings.Repeat("\n", api.MaxTable)
	for i, x := range []api.Tables{{Data: long}, {Exclusions: long}, {Folding: long}, {Weights: long}} {
		s, e := script.TablesText(x)
		if e != api.OK {
			t.Fatal(e)
		}
		if y, e := script.TablesOf(s); y != x || e != api.OK {
			t.Errorf("%d: %v", i, e)
		}
	}
	for i, x := range []api.Tables{{Data: long + "a"}, {Exclusions: long + "a"}, {Folding: long + "a"}, {Weights: long + "a"}} {
		if s, e := script.TablesText(x); s != "" || e != api.ErrLong {
			t.Errorf("%d: %v", i, e)
		}
		s := "tables " + script.Quote(x.Data) + " " + script.Quote(x.Exclusions) + " " + script.Quote(x.Folding) + " " + script.Quote(x.Weights)
		if y, e := script.TablesOf(s); y != (api.Tables{}) || e != api.ErrBytes {
			t.Errorf("%d: %v", i, e)
		}
		a := setup()
		a.Tables = x
		if s, e := script.SetupText(a); s != "" || e != api.ErrArg || script.MaySetup(a) {
			t.Errorf("%d: %v", i, e)
		}
		if y, e := script.SetupOf("directory 1 2 10 9 100 plain 3", x); y != (api.Setup{}) || e != api.ErrBytes {
			t.Errorf("%d: %v", i, e)
		}
	}
}

func TestP31_3Setup(t *testing.T) {
	most := api.Setup{F: 3, Clients: 4, Every: 4096, Quota: api.Quota{Entries: 1000, Bytes: 1 << 20}, Options: api.Options{Shifted: true, Levels: 4}}
	for line, x := range map[string]api.Setup{
		"directory 1 2 10 9 100 plain 3": setup(), "directory 3 4 4096 1000 1048576 shifted 4": most, "directory 1 1 1 0 0 plain 1": {F: 1, Clients: 1, Every: 1, Options: api.Options{Levels: 1}},
	} {
		if s, e := script.SetupText(x); s != line || e != api.OK || !script.MaySetup(x) {
			t.Errorf("%q: %q %v", line, s, e)
		}
		if y, e := script.SetupOf(line, x.Tables); y != x || e != api.OK {
			t.Errorf("%q: %v %v", line, y, e)
		}
	}
	for i, spoil := range []func(s *api.Setup){
		func(s *api.Setup) { s.F = 0 }, func(s *api.Setup) { s.F = 4 }, func(s *api.Setup) { s.F = -1 }, func(s *api.Setup) { s.Clients = 0 }, func(s *api.Setup) { s.Clients = 5 }, func(s *api.Setup) { s.Every = 0 }, func(s *api.Setup) { s.Every = 4097 },
		func(s *api.Setup) { s.Quota.Entries = -1 }, func(s *api.Setup) { s.Quota.Entries = 1001 }, func(s *api.Setup) { s.Quota.Bytes = -1 }, func(s *api.Setup) { s.Quota.Bytes = 1<<20 + 1 }, func(s *api.Setup) { s.Options.Levels = 0 }, func(s *api.Setup) { s.Options.Levels = 5 },
	} {
		x := setup()
		spoil(&x)
		if s, e := script.SetupText(x); s != "" || e != api.ErrArg || script.MaySetup(x) {
			t.Errorf("%d: %q %v", i, s, e)
		}
	}
	for _, s := range []string{
		"", "directory", "directory 1 2 10 9 100 plain", "directory 1 2 10 9 100 plain ", "directory 1 2 10 9 100 plain 3 ", "directory 1 2 10 9 100 plain 3 1", " directory 1 2 10 9 100 plain 3", "directory  1 2 10 9 100 plain 3", "Directory 1 2 10 9 100 plain 3", "directory 01 2 10 9 100 plain 3", "directory 1 2 10 9 100 Plain 3", "directory 1 2 10 9 100 plain3", "directory 1 2 10 9 100 plainly 3", "directory 1 2 10 9 100 shiftedplain 3", "directory 1 2 10 9 100 3",
		"directory 0 2 10 9 100 plain 3", "directory 4 2 10 9 100 plain 3", "directory 1 0 10 9 100 plain 3", "directory 1 5 10 9 100 plain 3", "directory 1 2 0 9 100 plain 3", "directory 1 2 4097 9 100 plain 3", "directory 1 2 10 1001 100 plain 3", "directory 1 2 10 9 1048577 plain 3", "directory 1 2 10 9 100 plain 0", "directory 1 2 10 9 100 plain 5", "directory -1 2 10 9 100 plain 3", "directory 1 2 10 9 18446744073709551617 plain 3",
	} {
		if x, e := script.SetupOf(s, setup().Tables); x != (api.Setup{}) || e != api.ErrBytes {
			t.Errorf("%q: %v %v", s, x, e)
		}
	}
}

// all is a script with all acts.
func all() api.Script {
	s := api.Script{Setup: setup()}
	for _, x := range acts {
		s.Acts = append(s.Acts, x.a)
	}
	return s
}

// lines is the text of a script with all acts, line by line.
func lines() []string {
	l := []string{`tables "a\nb" "" "c\"\\" "d;` + "\xff\"", "directory 1 2 10 9 100 plain 3"}
	for _, x := range acts {
		l = append(l, x.text)
	}
	return l
}

// joined are lines, each with its end.
func joined(l ...string) string { return strings.Join(append(l, ""), "\n") }

func TestP31_4TextParse(t *testing.T) {
	for n := range len(acts) + 1 {
		s := all()
		s.Acts = s.Acts[:n]
		want := joined(lines()[:2+n]...)
		if text, e := script.Text(s); text != want || e != api.OK {
			t.Errorf("%q %v", text, e)
		}
		if x, line, e := script.Parse(want); !script.Same(x, s) || line != 0 || e != api.OK {
			t.Errorf("%v %d %v", x, line, e)
		}
	}
	for i, x := range []struct {
		text string
		line int
	}{
		{"", 0}, {"\n", 0}, {"x", 0}, {"x\n", 0}, {lines()[0], 0}, {joined(lines()[:1]...), 1}, {joined(lines()[:1]...) + "x", 1}, {joined(lines()[:1]...) + lines()[1], 1}, {joined(lines()[0], "x"), 1}, {joined(lines()[1], lines()[0]), 0},
		{joined(lines()[:2]...) + "all", 2}, {joined(lines()[:2]...) + "\n", 2}, {joined(lines()[:4]...) + "all", 4}, {joined(append(lines()[:4], "x", "y")...), 4}, {joined(append(lines(), lines()[0])...), 2 + len(acts)}, {joined(append(lines()[:3], "", "all")...), 3},
		{"\n" + joined(lines()...), 0}, {joined(lines()...) + "\n", 2 + len(acts)}, {strings.ReplaceAll(joined(lines()...), "\n", "\r\n"), 0},
	} {
		if s, line, e := script.Parse(x.text); !script.Same(s, api.Script{}) || line != x.line || e != api.ErrBytes {
			t.Errorf("%d: %v %d %v", i, s, line, e)
		}
	}
}

func TestP31_4Errors(t *testing.T) {
	s := all()
	s.Setup.F = 9
	bad := api.Act{}
	long := all()
	long.Acts = slices.Repeat([]api.Act{{Kind: api.ActCarryAll}}, api.MaxActs+1)
	badAct := all()
	badAct.Acts = append(badAct.Acts, bad)
	longBad := long
	longBad.Acts = append(slices.Clone(long.Acts), bad)
	great := all()
	great.Setup.Tables.Data, great.Setup.Tables.Weights = strings.Repeat("a", api.MaxTable), strings.Repeat("a", api.MaxTable)
	tables := all()
	tables.Setup.Tables.Data = strings.Repeat("a", api.MaxTable+1)
	for i, x := range []struct {
		s    api.Script
		want api.Errno
	}{{s, api.ErrArg}, {badAct, api.ErrArg}, {long, api.ErrLong}, {longBad, api.ErrArg}, {great, api.ErrLong}, {tables, api.ErrArg}} {
		if text, e := script.Text(x.s); text != "" || e != x.want {
			t.Errorf("%d: %v", i, e)
		}
	}
	long.Acts = long.Acts[1:]
	text, e := script.Text(long)
	if e != api.OK {
		t.Fatal(e)
	}
	if x, line, e := script.Parse(text); len(x.Acts) != api.MaxActs || line != 0 || e != api.OK {
		t.Error(line, e)
	}
	if x, line, e := script.Parse(text + "all\n"); len(x.Acts) != 0 || line != 2+api.MaxActs || e != api.ErrBytes {
		t.Error(line, e)
	}
	for _, text := range []string{strings.Repeat("x", api.MaxScript+1), text + strings.Repeat("\n", api.MaxScript)} {
		if _, line, e := script.Parse(text); line != 0 || e != api.ErrLong {
			t.Error(line, e)
		}
	}
	if _, line, e := script.Parse(strings.Repeat("\n", api.MaxScript)); line != 0 || e != api.ErrBytes {
		t.Error(line, e)
	}
}

func TestP31_4LongestText(t *testing.T) {
	s := api.Script{Setup: setup()}
	s.Setup.Tables = api.Tables{Data: strings.Repeat("a", api.MaxTable), Weights: strings.Repeat("a", api.MaxTable)}
	fixed := len(`tables "" "" "" ""`) + 1 + len("directory 1 2 10 9 100 plain 3") + 1
	s.Setup.Tables.Weights = s.Setup.Tables.Weights[:api.MaxScript-api.MaxTable-fixed]
	text, e := script.Text(s)
	if len(text) != api.MaxScript || e != api.OK {
		t.Fatal(len(text), e)
	}
	if x, line, e := script.Parse(text); !script.Same(x, s) || line != 0 || e != api.OK {
		t.Error(line, e)
	}
	s.Setup.Tables.Weights += "a"
	if text, e := script.Text(s); text != "" || e != api.ErrLong {
		t.Error(len(text), e)
	}
}

func TestP31_4Same(t *testing.T) {
	a, b := all(), all()
	if !script.Same(a, b) || !script.Same(api.Script{Acts: []api.Act{}}, api.Script{}) {
		t.Error("they are the same")
	}
	b.Setup.Every++
	if script.Same(a, b) {
		t.Error("setups")
	}
	b = all()
	b.Acts[3].N = 5
	if script.Same(a, b) {
		t.Error("acts")
	}
	b = all()
	b.Acts = b.Acts[1:]
	if script.Same(a, b) {
		t.Error("fewer acts")
	}
	b = all()
	b.Setup.Tables.Folding = "x"
	if script.Same(a, b) {
		t.Error("tables")
	}
}

func TestP31_5BackAgain(t *testing.T) {
	// Whatever is read, has just that text.
	base := lines()
	signs := []string{"", " ", "0", "1", "-", ",", `"`, `\`, "a", "\n", "="}
	for i, line := range base {
		for at := range len(line) + 1 {
			for _, sign := range signs {
				for _, cut := range []int{0, 1} {
					if at+cut > len(line) {
						continue
					}
					changed := slices.Clone(base)
					changed[i] = line[:at] + sign + line[at+cut:]
					text := joined(changed...)
					s, wrong, e := script.Parse(text)
					if e != api.OK {
						if e != api.ErrBytes || wrong < i {
							t.Fatalf("%q: %d %v", text, wrong, e)
						}
						continue
					}
					if again, e := script.Text(s); again != text || e != api.OK {
						t.Fatalf("%q, then %q: %v", text, again, e)
					}
				}
			}
		}
	}
}
