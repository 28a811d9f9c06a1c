package find

import (
	"math"
	"slices"
	"strconv"
	"strings"
	"testing"

	"franking/api"
	"franking/flag"
	"franking/seq"
)

// words reads words: (a b) is a list, and 'a is a quoted string.
func words(s string) []Word {
	var stack [][]Word
	var l []Word
	for _, w := range strings.Fields(strings.NewReplacer("(", " ( ", ")", " ) ").Replace(s)) {
		switch {
		case w == "(":
			stack = append(stack, l)
			l = nil
		case w == ")":
			list := Word{List: l, IsList: true}
			l = append(stack[len(stack)-1], list)
			stack = stack[:len(stack)-1]
		case w[0] == '\'':
			l = append(l, Word{Text: w[1:], Quoted: true})
		default:
			l = append(l, Word{Text: w})
		}
	}
	return l
}

// show writes a key with all its fields.
func show(k Key) string {
	s := strconv.Itoa(k.Kind)
	if k.Name != "" {
		s += " name=" + k.Name
	}
	if k.Text != "" {
		s += " text=" + k.Text
	}
	if k.Num != 0 {
		s += " num=" + strconv.FormatInt(k.Num, 10)
	}
	if len(k.Set.L) > 0 {
		s += " set=" + seq.Show(k.Set)
	}
	for _, kid := range k.Kids {
		s += "[" + show(kid) + "]"
	}
	return s
}

func TestParse(t *testing.T) {
	for s, want := range map[string]string{
		"all": "[1]", "UNSEEN FROM 'Ann": `[3 text=\Seen][5 name=from text=Ann]`, "Answered DELETED draft flagged seen": `[2 text=\Answered][2 text=\Deleted][2 text=\Draft][2 text=\Flagged][2 text=\Seen]`,
		"unanswered UNDELETED undraft unflagged": `[3 text=\Answered][3 text=\Deleted][3 text=\Draft][3 text=\Flagged]`, "KEYWORD Abc unkeyword '\\seen": `[4 text=Abc][4 text=\Seen num=1]`,
		"TO a cc 'b BCC ( ) ": "", "to a cc 'b bcc c SUBJECT '": "[5 name=to text=a][5 name=cc text=b][5 name=bcc text=c][5 name=subject]", "HEADER 'X-Y z header ' '": "[5 name=X-Y text=z][5]",
		"body x TEXT NOT": "[6 text=x][6 text=NOT num=1]", "LARGER 007 smaller '5": "[7 num=7][7 name=< num=5]", "before 2-Jan-1970 ON '03-jan-1970 since 1-Jan-1970": "[8 name=< num=1][8 name== num=2][8 name=>]",
		"uid 1:*,3 UID '5": "[9 set=1:*,3][9 set=5]", "1,2 *": "[10 set=1,2][10 set=*]", "9 10": "[10 set=9][10 set=10]", "not all": "[11[1]]", "OR all not 5": "[12[1][11[10 set=5]]]", "or or 1 2 or 3 4": "[12[12[10 set=1][10 set=2]][12[10 set=3][10 set=4]]]",
		"(all (seen 1)) 2": `[13[1][13[2 text=\Seen][10 set=1]]][10 set=2]`, "x-gm-labels 'a X-GM-MSGID 5 x-gm-thrid '6": "[14 text=a][15 num=5][15 name=t num=6]", "NOT (all)": "[11[13[1]]]",
	} {
		k, err := Parse(words(s))
		if want == "" {
			if err != api.EFORM || k.Kids != nil {
				t.Errorf("P22.1: Parse(%s): %s, %d", s, show(k), err)
			}
		} else if show(k) != "13"+want || err != api.OK {
			t.Errorf("P22.1: Parse(%s): %s, %d", s, show(k), err)
		}
	}
}

func TestParseErrors(t *testing.T) {
	for _, s := range []string{
		"", "'ALL", "none", "()", "all ()", "not", "or", "or all", "or 'all all", "not 'all", "from", "from (a)", "header a", "header a (b)", "header (a) b", "header", "keyword", "keyword 'a]", "keyword (a)", "unkeyword \\x",
		"larger x", "larger -1", "larger 12345678901", "smaller '", "before 1-Jan-1969", "on 31-Feb-2000", "since '", "uid", "uid 0", "uid '", "uid all", "0", "01", "1:", "**", "1,,2", "(all none)", "x-gm-labels", "x-gm-msgid a",
		"x-gm-thrid (1)", "all or 1", "UNALL", "UNKEYWORDS a", "recent", "or (all) ()", "uid (1)", "-1",
	} {
		if k, err := Parse(words(s)); err != api.EFORM || k.Kind != 0 || k.Kids != nil {
			t.Errorf("P22.1: Parse(%s): %s, %d", s, show(k), err)
		}
	}
	if _, err := Parse([]Word{{}}); err != api.EFORM {
		t.Error("P22.1: an empty plain word")
	}
	set := strings.Repeat("1,", api.MaxSeqs) + "1"
	for _, l := range [][]Word{{{Text: set}}, {{Text: "uid"}, {Text: set}}} {
		if _, err := Parse(l); err != api.EFORM {
			t.Errorf("P22.1: a set that is too long: %d", err)
		}
	}
}

func TestParseLimits(t *testing.T) {
	for i, c := range []struct {
		s    string
		want api.Errno
	}{
		{strings.Repeat("all ", api.MaxKeys-1), api.OK}, {strings.Repeat("all ", api.MaxKeys), api.ELIMIT}, {strings.Repeat("all ", api.MaxKeys) + "none", api.EFORM},
		{"(" + strings.Repeat("all ", api.MaxKeys-2) + ")", api.OK}, {"(" + strings.Repeat("all ", api.MaxKeys-1) + ")", api.ELIMIT},
		{strings.Repeat("or 1 ", 19) + "2", api.OK}, {strings.Repeat("or 1 ", 20) + "2", api.ELIMIT},
		{strings.Repeat("not ", api.MaxDepth-2) + "all", api.OK}, {strings.Repeat("not ", api.MaxDepth-1) + "all", api.ELIMIT}, {strings.Repeat("not ", api.MaxDepth-1), api.EFORM},
		{strings.Repeat("(", api.MaxDepth-2) + "all" + strings.Repeat(")", api.MaxDepth-2), api.OK}, {strings.Repeat("(", api.MaxDepth-1) + "all" + strings.Repeat(")", api.MaxDepth-1), api.ELIMIT},
		{strings.Repeat("(", api.MaxDepth-1) + "all" + strings.Repeat(")", api.MaxDepth-1) + " ()", api.EFORM}, {strings.Repeat("not ", 1000000) + "all", api.ELIMIT}, {strings.Repeat("or ", 500000) + strings.Repeat("1 ", 500001), api.ELIMIT},
	} {
		if k, err := Parse(words(c.s)); err != c.want || (k.Kids == nil) != (err != api.OK) {
			t.Errorf("P22.1: limit number %d: %d", i, err)
		}
	}
}

func holdsFor(t *testing.T, s string, m Mail) bool {
	t.Helper()
	k, err := Parse(words(s))
	if err != api.OK {
		t.Fatalf("P22.1: Parse(%s): %d", s, err)
	}
	return Is(k, m)
}

func TestIs(t *testing.T) {
	m := Mail{
		N: 3, UID: 7, LastN: 5, LastUID: 9, ID: 11, Thread: 10, Unix: 86400*2 + 5,
		Body:  []byte("From: Ann <a@b>\r\nFrom: Bob\r\nSubject:\r\nX-Y: zé\r\n\r\nHello"),
		Flags: flag.Set{L: []string{`\Seen`, "abc"}}, Labels: []string{"All", "a b"},
	}
	for _, s := range []string{
		"all", "seen", "unflagged", "keyword ABC", "unkeyword x", "keyword \\seen", "from ann", "from '", "from <A@", "subject '", "header x-y Z", "header from ANN", "header 'X-Y é", "body hELLO", "text subject:", "text hello", "body '", "larger 50",
		"smaller 1000", "before 4-Jan-1970", "on 3-Jan-1970", "since 3-Jan-1970", "since 1-Jan-1970", "uid 7", "uid 8,5:7", "3", "5:2", "3:*", "uid *:7", "not deleted", "or deleted seen", "or seen deleted", "(seen all)", "x-gm-labels All",
		"x-gm-msgid 11", "x-gm-thrid 10", "seen 3 uid 7", "not not seen",
	} {
		if !holdsFor(t, s, m) || holdsFor(t, "not ("+s+")", m) {
			t.Errorf("P22.1: %s does not hold", s)
		}
	}
	for _, s := range []string{
		"unseen", "flagged", "keyword x", "unkeyword abc", "from bob", "to '", "cc x", "subject x", "header z '", "body subject", "header x-y É", "before 3-Jan-1970", "on 2-Jan-1970", "on 4-Jan-1970", "since 4-Jan-1970", "uid 3", "7", "*", "uid *",
		"or deleted draft", "(seen deleted)", "x-gm-labels all", "x-gm-labels a", "x-gm-msgid 10", "x-gm-thrid 11", "seen unseen",
	} {
		if holdsFor(t, s, m) || !holdsFor(t, "not ("+s+")", m) {
			t.Errorf("P22.1: %s holds", s)
		}
	}
	m.Unix = 86400 * 2
	if !holdsFor(t, "on 3-Jan-1970", m) {
		t.Error("P22.1: the first second of a day")
	}
	n := strconv.Itoa(len(m.Body))
	if holdsFor(t, "larger "+n, m) || holdsFor(t, "smaller "+n, m) {
		t.Error("P22.1: a size that is equal")
	}
	if !Is(Key{Kind: 14, Text: "a b"}, m) {
		t.Error("P22.1: a label with a space")
	}
}

func TestStrangeKeys(t *testing.T) {
	m := Mail{N: 1, UID: 1, LastN: 1, LastUID: 1, ID: 2, Thread: 3, Unix: -1, Body: []byte("A: x\r\n\r\ny"), Flags: flag.Set{L: []string{"f"}}}
	every := Key{Kind: 1}
	for i, k := range []Key{
		{Kind: 0}, {Kind: 16}, {Kind: -1}, {Kind: math.MaxInt}, {Kind: 8}, {Kind: 8, Name: "x", Num: -1}, {Kind: 11}, {Kind: 11, Kids: []Key{every, every}}, {Kind: 12}, {Kind: 12, Kids: []Key{every}}, {Kind: 12, Kids: []Key{every, every, every}},
		{Kind: 9}, {Kind: 10, Set: seq.Set{L: []seq.Span{{From: -1, To: 5}}}}, {Kind: 8, Name: "=", Num: 0}, {Kind: 6, Num: 2, Text: "A:"}, {Kind: 4, Num: 1, Text: "F"},
	} {
		if Is(k, m) {
			t.Errorf("P22.1: key number %d holds", i)
		}
	}
	for i, k := range []Key{
		{Kind: 13}, {Kind: 4, Text: "F", Num: 2}, {Kind: 4, Text: "F", Num: -1}, {Kind: 6, Num: 7, Text: "Y"}, {Kind: 7, Name: ">", Num: 8}, {Kind: 15, Name: "x", Num: 2}, {Kind: 15, Name: "T", Num: 2}, {Kind: 8, Name: "=", Num: -1}, {Kind: 8, Name: "<", Num: 0},
		{Kind: 2, Text: "f"}, {Kind: 12, Kids: []Key{{}, every}}, {Kind: 11, Kids: []Key{{Kind: 99}}},
	} {
		if !Is(k, m) {
			t.Errorf("P22.1: key number %d does not hold", i)
		}
	}
}

func TestParseLeavesWordsAlone(t *testing.T) {
	l := words("(from a) or 1 2")
	Parse(l)
	if !slices.EqualFunc(l, words("(from a) or 1 2"), func(a, b Word) bool { return a.Text == b.Text && len(a.List) == len(b.List) }) {
		t.Error("R4: Parse changes its argument")
	}
}
