package console_test

import (
	"fmt"
	"slices"
	"strings"
	"testing"

	"blazon/api"
	"blazon/console"
	"blazon/match"
	"blazon/message"
	"blazon/script"
)

// tables fold A to Z, and weigh a to z.
func tables() api.Tables {
	var t api.Tables
	for c := 'a'; c <= 'z'; c++ {
		t.Folding += fmt.Sprintf("%04X; C; %04X;\n", c-32, c)
		t.Weights += fmt.Sprintf("%04X ; [.%04X.0020.0002]\n", c, 0x1000+int(c))
	}
	return t
}

// tablesLine is their line.
func tablesLine(t *testing.T) string {
	t.Helper()
	s, e := script.TablesText(tables())
	if e != api.OK {
		t.Fatal(e)
	}
	return s
}

// says has a console be told a line, and fails the test unless it answers just this.
func says(t *testing.T, c *console.Console, line string, want ...string) {
	t.Helper()
	if got := c.Say(line); !slices.Equal(got, want) {
		t.Errorf("%.100q: %q, not %q", line, got, want)
	}
}

// begun is a console with the tables, and a world of 3 nodes and 2 clients.
func begun(t *testing.T) *console.Console {
	t.Helper()
	c := console.New()
	says(t, c, tablesLine(t), "ok")
	says(t, c, "directory 1 2 10 9 100 plain 3", "ok")
	if !c.Begun() || c.World() == nil {
		t.Fatal("it has not begun")
	}
	return c
}

const (
	errLong  = "error 3"
	errBytes = "error 4"
	errNone  = "error 8"
	errState = "error 12"
)

func TestP32_1Example(t *testing.T) {
	c := console.New()
	says(t, c, "history", errState)
	says(t, c, "directory 1 1 10 9 100 plain 3", "ok")
	says(t, c, `ask 1 look "a"`, "ok")
	says(t, c, "all", "ok")
	says(t, c, "judge", "right right right right right")
	says(t, c, "history", `1 1 look "a" 0 1 error 8`)
}

func TestP32_1World(t *testing.T) {
	c := console.New()
	if c.Begun() || c.World() != nil {
		t.Error("it has begun")
	}
	says(t, c, "end", "ok")
	says(t, c, "directory 3 4 4096 1000 1048576 shifted 4", "ok")
	first := c.World()
	if s := first.Setup(); s.F != 3 || s.Clients != 4 || s.Every != 4096 || s.Quota != (api.Quota{Entries: 1000, Bytes: 1 << 20}) || s.Options != (api.Options{Shifted: true, Levels: 4}) || s.Tables != (api.Tables{}) {
		t.Error(s)
	}
	says(t, c, tablesLine(t), "ok") // which a world takes that begins
	if c.World() != first || c.World().Setup().Tables != (api.Tables{}) {
		t.Error("the world is another one")
	}
	says(t, c, "directory 1 2 10 9 100 plain 3", "ok")
	if c.World() == first || c.World().Setup().Tables != tables() {
		t.Error("the world is the same")
	}
	says(t, c, `ask 1 look "a"`, "ok")
	says(t, c, "end", "ok")
	if c.Begun() || c.World() != nil {
		t.Error("there is a world")
	}
	says(t, c, "directory 1 2 10 9 100 plain 3", "ok")
	if c.World().Setup().Tables != tables() || len(c.World().History()) != 0 {
		t.Error("the tables are gone")
	}
	says(t, c, "end", "ok")
	says(t, c, "end", "ok")
}

func TestP32_1Setup(t *testing.T) {
	c := begun(t)
	world := c.World()
	says(t, c, `tables "x" "" "" ""`, "ok")
	says(t, c, "directory 1 2 10 9 100 plain 3", "error 6")
	says(t, c, "directory 4 2 10 9 100 plain 3", errBytes)
	if c.World() != world {
		t.Error("a refused line changes the world")
	}
	says(t, c, `tables "" "" "" ""`, "ok")
	says(t, c, `tables "y" "" ""`, errBytes)
	says(t, c, "directory 1 2 10 9 100 plain 3", "ok")
}

func TestP32_1Acts(t *testing.T) {
	c := begun(t)
	for _, x := range [][2]string{
		{`ask 1 add "a" t="v"`, "ok"}, {`ask 1 add "b" -`, "error 12"}, {`ask 3 add "b" -`, "error 2"}, {"carry 0", "ok"}, {"tick 1", "ok"}, {"retry 1", "ok"}, {"retry 0", "error 2"}, {"off 2", "ok"}, {"off 2", "error 12"}, {"off 3", "error 2"}, {"on 2 0", "error 2"}, {"on 2 5", "ok"}, {"on 2 6", "error 12"}, {"bytes 1 00", "ok"}, {"all", "ok"},
	} {
		says(t, c, x[0], x[1])
	}
	if c.World().Acts() != 15 {
		t.Error(c.World().Acts())
	}
	says(t, console.New(), "carry 0", errState)
	says(t, console.New(), `ask 9 add "b" -`, errBytes)
	says(t, console.New(), `ask 6 add "b" -`, errState)
}

func TestP32_1HistoryOrderNet(t *testing.T) {
	c := begun(t)
	says(t, c, "history")
	says(t, c, "order")
	says(t, c, "net", "0 0")
	says(t, c, `ask 2 add "B \"" a="1\n",b=""`, "ok")
	says(t, c, "history", `2 1 add "B \"" a="1\n",b="" 0 0 under way`)
	says(t, c, "net", "1 1")
	says(t, c, "order")
	for _, o := range []string{`add "a" -`, `page - 1`, `page 0161 5`, `compare "b \"" a="1\n"`, `compare "b \"" a="2"`, `look "x"`, `delete "a"`, `search "b" - 3`} {
		says(t, c, "all", "ok")
		says(t, c, "ask 2 "+o, "ok")
	}
	says(t, c, "all", "ok")
	says(t, c, `ask 1 rename "x" "y"`, "ok")
	says(t, c, "history",
		`2 1 add "B \"" a="1\n",b="" 0 1 no -`,
		`2 2 add "a" - 2 3 no -`,
		`2 3 page - 1 4 5 no 0161 "a" -`,
		`2 4 page 0161 5 6 7 no - "B \"" a="1\n",b=""`,
		`2 5 compare "b \"" a="1\n" 8 9 yes -`,
		`2 6 compare "b \"" a="2" 10 11 no -`,
		`2 7 look "x" 12 13 error 8`,
		`2 8 delete "a" 14 15 no -`,
		`2 9 search "b" - 3 16 17 no - "B \"" a="1\n",b=""`,
		`1 1 rename "x" "y" 18 0 under way`,
	)
	says(t, c, "order",
		`2 1 add "B \"" a="1\n",b=""`, `2 2 add "a" -`, `2 3 page - 1`, `2 4 page 0161 5`, `2 5 compare "b \"" a="1\n"`, `2 6 compare "b \"" a="2"`, `2 7 look "x"`, `2 8 delete "a"`, `2 9 search "b" - 3`)
	net := c.World().Net()
	says(t, c, "net", fmt.Sprint(len(net), " 1"))
}

func TestP32_1Pages(t *testing.T) {
	c := begun(t)
	for _, o := range []string{`add "a" -`, `add "c" t="1"`, `add "b" -`, `page - 2`} {
		says(t, c, "ask 1 "+o, "ok")
		says(t, c, "all", "ok")
	}
	if got := c.Say("history"); len(got) != 4 || got[3] != `1 4 page - 2 6 7 no 0162 "a" - "b" -` {
		t.Errorf("%q", got)
	}
	says(t, c, "tick 0", "ok")
	says(t, c, "all", "ok")
	for i := range 3 {
		says(t, c, fmt.Sprint("store ", i), `"a" -`, `"b" -`, `"c" t="1"`)
	}
}

func TestP32_1NodeStoreClient(t *testing.T) {
	c := begun(t)
	says(t, c, "node 0", "1 0 0 0")
	says(t, c, "client 1", "0 0 free")
	says(t, c, "store 0")
	says(t, c, `ask 1 add "b" -`, "ok")
	says(t, c, "client 1", "1 0 under way")
	says(t, c, "all", "ok")
	says(t, c, "client 1", "1 0 free")
	says(t, c, "client 2", "0 0 free")
	says(t, c, "node 0", "1 0 1 0")
	says(t, c, "node 1", "1 0 0 0")
	says(t, c, "store 1")
	says(t, c, "bytes 1 00", "ok")
	says(t, c, "tick 0", "ok")
	says(t, c, "all", "ok")
	says(t, c, "node 1", "1 0 1 1")
	says(t, c, "store 1", `"b" -`)
	says(t, c, "off 0", "ok")
	says(t, c, "node 0", "none")
	says(t, c, "store 0", "none")
	says(t, c, "tick 1", "ok")
	says(t, c, "tick 1", "ok")
	says(t, c, "node 1", "2 1 1 1")
	says(t, c, "all", "ok")
	says(t, c, "node 1", "1 1 1 1")
	says(t, c, `ask 1 look "b"`, "ok")
	says(t, c, "retry 1", "ok")
	says(t, c, "all", "ok")
	says(t, c, "client 1", "2 1 free")
	says(t, c, "on 0 7", "ok")
	says(t, c, "node 0", "3 0 0 0")
	says(t, c, "store 0")
	for _, line := range []string{"node 3", "node 1000000", "store 3", "store 1000000", "client 0", "client 3", "client 1000000"} {
		says(t, c, line, errNone)
		says(t, console.New(), line, errState)
	}
	for _, line := range []string{"node", "node ", "node -1", "node 01", "node 1000001", "node 1 ", "node  1", "node 1 1", "node x", "store", "store 1000001", "store 1 1", "client", "client 1000001", "client x", "node 1000001 "} {
		says(t, c, line, errBytes)
		says(t, console.New(), line, errBytes)
	}
}

func TestP32_1Names(t *testing.T) {
	c := begun(t)
	names, e := match.New(tables())
	if e != api.OK {
		t.Fatal(e)
	}
	for _, s := range []string{"", "Foo  Bar", " a\"b\\", "\u00e9\t\u3000", "a\nb"} {
		l, e := match.Prepare(names, s)
		if e != api.OK {
			t.Fatal(e)
		}
		says(t, c, "name "+script.Quote(s), script.Quote(string(l)))
		key := fmt.Sprintf("%x", c.World().Collator().Key(l...))
		says(t, c, "key "+script.Quote(s), key)
	}
	says(t, c, `name "Foo  Bar"`, `" foo  bar "`)
	for _, x := range [][3]string{{"a", "A", "right"}, {"a b", " A  B ", "right"}, {"a", "b", "wrong"}, {"", "", "right"}, {`"`, `\`, "wrong"}, {`a" "b`, `a" "b`, "right"}, {"\xff", "a", "error 5"}, {"a", "\ufffd", "error 7"}, {"\ufffd", "\xff", "error 7"}} {
		says(t, c, "same "+script.Quote(x[0])+" "+script.Quote(x[1]), x[2])
	}
	for _, word := range []string{"name ", "key "} {
		says(t, c, word+"\"\xff\"", "error 5")
		says(t, c, word+"\"\ufffd\"", "error 7")
		says(t, console.New(), word+"\"\xff\"", errState)
	}
	says(t, console.New(), `same "a" "b"`, errState)
	for _, line := range []string{
		"name", "name ", "name a", `name "a`, `name "a" `, `name "a" "b"`, `name  "a"`, `name "\a"`, "key", `key "a" "a"`, `key a`, "same", "same ", `same "a"`, `same "a" `, `same "a"  "b"`, `same "a" "b" "c"`, `same "a""b"`, `same "a","b"`, `same "a" b`, `same a "b"`, `same "a\" "b"`, `same "a" "b" `, "same \"\\", `same "`,
	} {
		says(t, c, line, errBytes)
		says(t, console.New(), line, errBytes)
	}
	long := `"` + strings.Repeat("a", api.MaxTable) + `"`
	says(t, console.New(), "name "+long, errState)
	longer := long[:len(long)-1] + `a"`
	for _, line := range []string{"name " + longer, "key " + longer, `same "" ` + longer, "same " + longer + ` ""`} {
		says(t, console.New(), line, errBytes)
	}
}

func TestP32_1NoKey(t *testing.T) {
	c := console.New()
	says(t, c, `tables "" "" "" "0020 ; [*0209.0020.0002]\n"`, "ok")
	says(t, c, "directory 1 1 10 9 100 shifted 1", "ok")
	says(t, c, `key ""`, "-")
}

func TestP32_1Refused(t *testing.T) {
	c := begun(t)
	for _, line := range []string{
		"", " ", "x", "History", "history ", " history", "history 1", "order x", "net 1", "judge ", "end ", "end 1", "all 1", "all\n", "history\n", "\n", "look \"a\"", "tables", "directory", "ok", "error 4", "ask", "nothing",
	} {
		says(t, c, line, errBytes)
		says(t, console.New(), line, errBytes)
	}
	if !c.Begun() || c.World().Acts() != 0 {
		t.Error("a refused line changes something")
	}
	for _, line := range []string{"history", "order", "net", "judge", "all"} {
		says(t, console.New(), line, errState)
	}
	says(t, c, strings.Repeat("x", api.MaxScript+1), errLong)
	says(t, c, "history"+strings.Repeat("\n", api.MaxScript), errLong)
	says(t, c, strings.Repeat("x", api.MaxScript), errBytes)
}

func TestP32_1Run(t *testing.T) {
	c := console.New()
	text := "net\n\n" + tablesLine(t) + "\ndirectory 1 2 10 9 100 plain 3\nhistory\nask 1 add \"a\" -\nall\nhistory\norder"
	want := "error 12\nerror 4\nok\nok\nok\nok\n1 1 add \"a\" - 0 1 no -\n1 1 add \"a\" -\n"
	if got, e := c.Run(text); got != want || e != api.OK {
		t.Errorf("%q %v", got, e)
	}
	if got, e := c.Run("order\n"); got != "1 1 add \"a\" -\n" || e != api.OK {
		t.Errorf("%q %v", got, e)
	}
	if got, e := c.Run(""); got != "" || e != api.OK {
		t.Errorf("%q %v", got, e)
	}
	if got, e := c.Run("\n"); got != errBytes+"\n" || e != api.OK {
		t.Errorf("%q %v", got, e)
	}
	if got, e := c.Run(strings.Repeat("x", api.MaxScript)); got != errBytes+"\n" || e != api.OK {
		t.Errorf("%q %v", got, e)
	}
	if got, e := c.Run("end\n" + strings.Repeat("x", api.MaxScript)); got != "" || e != api.ErrLong || !c.Begun() {
		t.Errorf("%q %v", got, e)
	}
}

func TestP32_1NilAndZero(t *testing.T) {
	for _, c := range []*console.Console{nil, {}} {
		says(t, c, "end")
		says(t, c, "directory 1 2 10 9 100 plain 3")
		got, e := c.Run(strings.Repeat("x", api.MaxScript+1))
		if got != "" || e != api.ErrNil || c.Begun() || c.World() != nil {
			t.Errorf("%q %v", got, e)
		}
	}
}

func TestP32_2Scripts(t *testing.T) {
	s := api.Script{Setup: api.Setup{F: 1, Clients: 2, Every: 2, Quota: api.Quota{Entries: 9, Bytes: 99}, Options: api.Options{Levels: 2}, Tables: tables()}}
	n := uint32(3)
	next := func(m int) int {
		n = n*1664525 + 1013904223
		return int(n>>8) % m
	}
	for i := range 150 {
		a := api.Act{Kind: api.ActCarry, N: next(1000000)}
		switch next(10) {
		case 0, 1, 2:
			a = api.Act{Kind: api.ActAsk, Who: 1 + next(2), Op: api.Op{Kind: []api.OpKind{api.OpAdd, api.OpDelete, api.OpLookup}[next(3)], Name: string(rune('a' + next(4)))}}
		case 3:
			a = api.Act{Kind: api.ActTick, Who: next(3)}
		case 4, 5:
			a = api.Act{Kind: api.ActCarryAll}
		case 6:
			if i%7 == 0 {
				s.Acts = append(s.Acts, api.Act{Kind: api.ActOff, Who: 1}, api.Act{Kind: api.ActOn, Who: 1, Nonce: uint64(i + 1)}, api.Act{Kind: api.ActCarryAll})
			}
		}
		s.Acts = append(s.Acts, a)
	}
	text, e := script.Text(s)
	if e != api.OK {
		t.Fatal(e)
	}
	c, d := console.New(), console.New()
	answers, e := c.Run(text)
	if e != api.OK || strings.Count(answers, "\n") != 2+len(s.Acts) {
		t.Error(e, strings.Count(answers, "\n"))
	}
	var said []string
	for line := range strings.Lines(text) {
		said = append(said, d.Say(strings.TrimSuffix(line, "\n"))...)
	}
	if strings.Join(append(said, ""), "\n") != answers {
		t.Error("Run of a text is not Say of its lines")
	}
	if c.World().Acts() != len(s.Acts) || c.World().Setup() != s.Setup {
		t.Error(c.World().Acts())
	}
	for _, look := range []string{"history", "order", "net", "judge", "node 0", "node 1", "store 2", "client 1", `name "a"`, `key "a"`, `same "a" "b"`, "nonsense"} {
		before := []int{c.World().Acts(), c.World().Waiting(), len(c.World().Net())}
		a, b := c.Say(look), c.Say(look)
		if !slices.Equal(a, b) || !slices.Equal(a, d.Say(look)) {
			t.Errorf("%s: %q, %q", look, a, b)
		}
		if after := []int{c.World().Acts(), c.World().Waiting(), len(c.World().Net())}; !slices.Equal(before, after) {
			t.Errorf("%s changes something", look)
		}
	}
	says(t, c, "judge", "right right right right right")
	for _, call := range c.World().History() {
		if call.Done && !message.MayResult(call.Result) {
			t.Error(call)
		}
	}
}

func TestP32_2Unfair(t *testing.T) {
	c := begun(t)
	says(t, c, "off 0", "ok")
	says(t, c, "off 1", "ok")
	says(t, c, "judge", "wrong right right right right")
}
