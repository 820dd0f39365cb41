package search_test

import (
	"math"
	"strings"
	"testing"

	"cubby/api"
	"cubby/command"
	"cubby/search"
)

func letter() api.Shown {
	b := "From: Ann <a@b>\r\nTo: Bob\r\nX-Q: \r\nSubject: Hello\r\n World\r\nsubject: second\r\n\r\nThe BODY of it"
	return api.Shown{Seq: 3, Top: 9, Uid: 30, TopUid: 90, Flags: []string{`\Seen`, "Foo"}, Size: len(b), Body: []byte(b), Has: true}
}

func not(k api.Key) api.Key { return api.Key{Kind: api.KeyNot, Keys: []api.Key{k}} }

func keys(t *testing.T, s string) []api.Key {
	t.Helper()
	c, e := command.Parse([]byte("a SEARCH " + s))
	if e != api.OK {
		t.Fatalf("%q: %d", s, e)
	}
	return c.Keys
}

func TestMatch(t *testing.T) {
	rows := []struct {
		key  string
		want bool
	}{
		{"ALL", true}, {"SEEN", true}, {"UNSEEN", false}, {"DRAFT", false}, {"UNDRAFT", true}, {"KEYWORD foo", true}, {"KEYWORD FOO", true}, {"UNKEYWORD foo", false}, {"KEYWORD bar", false},
		{"3", true}, {"1:2", false}, {"30", false}, {"4:*", false}, {"2:*", true}, {"*", false}, {"UID 30", true}, {"UID 3", false}, {"UID 31:*", false}, {"UID *:30", true}, {"UID *", false},
		{"FROM ann", true}, {"FROM A@B", true}, {"FROM bob", false}, {"TO BOB", true}, {"TO \"\"", true}, {"SUBJECT \"hello world\"", true}, {"SUBJECT second", false}, {"SUBJECT \"\"", true},
		{"HEADER x-q \"\"", true}, {"HEADER X-Q z", false}, {"HEADER x-r \"\"", false}, {"HEADER FROM ann", true}, {"HEADER cc \"\"", false},
		{"BODY body", true}, {"BODY \"of it\"", true}, {"BODY ann", false}, {"BODY \"\"", true}, {"TEXT ann", true}, {"TEXT \"the body\"", true}, {"TEXT zzz", false}, {"TEXT \"\"", true},
		{"LARGER 0", true}, {"LARGER 999", false}, {"SMALLER 999", true}, {"SMALLER 0", false},
		{"NOT SEEN", false}, {"NOT DRAFT", true}, {"OR DRAFT SEEN", true}, {"OR SEEN DRAFT", true}, {"OR DRAFT FLAGGED", false}, {"(SEEN 3)", true}, {"(SEEN DRAFT)", false}, {"(DRAFT)", false}, {"NOT (SEEN NOT (UID 30))", true}, {"NOT NOT NOT NOT NOT SEEN", false},
	}
	for _, r := range rows {
		k := keys(t, r.key)[0]
		if !search.Right(k) {
			t.Errorf("P17.1: Right of %s", r.key)
		}
		if got := search.Match(k, letter()); got != r.want {
			t.Errorf("P17.2: %s: %v", r.key, got)
		}
		if strings.HasPrefix(r.key, "NOT NOT NOT NOT NOT") {
			continue
		}
		if got := search.Match(not(k), letter()); got == r.want {
			t.Errorf("a key and its KeyNot: %s", r.key)
		}
	}
	m := letter()
	for _, n := range []int{-1, 1} {
		for _, kind := range []int{api.KeyLarger, api.KeySmaller} {
			k := api.Key{Kind: kind, N: m.Size + n}
			if got := search.Match(k, m); got != ((n < 0) == (kind == api.KeyLarger)) {
				t.Errorf("P17.2: %v: %v", k, got)
			}
			k.N = m.Size
			if search.Match(k, m) {
				t.Errorf("P17.2: %v of the same size", k)
			}
		}
	}
}

func TestWithoutBytes(t *testing.T) {
	m := letter()
	m.Has, m.Body = false, nil
	for _, s := range []string{"FROM \"\"", "TO \"\"", "SUBJECT \"\"", "BODY \"\"", "TEXT \"\"", "HEADER x \"\"", "BODY a"} {
		k := keys(t, s)[0]
		if search.Match(k, m) {
			t.Errorf("P17.2: no text stands in what is not here: %s", s)
		}
		if !search.Match(not(k), m) {
			t.Errorf("P17.2: NOT %s", s)
		}
	}
	with := letter()
	with.Has = false
	for _, s := range []string{"FROM ann", "BODY body", "TEXT ann", "HEADER from ann"} {
		if search.Match(keys(t, s)[0], with) {
			t.Errorf("P17.2: bytes that are said not to be here: %s", s)
		}
	}
	if !search.Match(keys(t, "(SEEN 3 LARGER 5)")[0], m) {
		t.Error("P17.2: what asks for no bytes")
	}
	m.Has = true
	if !search.Match(keys(t, "BODY \"\"")[0], m) || !search.Match(keys(t, "TEXT \"\"")[0], m) || search.Match(keys(t, "FROM \"\"")[0], m) {
		t.Error("P17.2: a message of no bytes that is here")
	}
}

func TestRight(t *testing.T) {
	all := api.Key{Kind: api.KeyAll}
	set := []api.Range{{From: 1, To: 1}}
	around := make([]api.Key, 1)
	around[0] = api.Key{Kind: api.KeyAnd, Keys: around}
	and := func(n int) api.Key {
		k := api.Key{Kind: api.KeyAnd}
		for range n {
			k.Keys = append(k.Keys, all)
		}
		return k
	}
	nest := func(n int) api.Key {
		k := all
		for range n - 1 {
			k = not(k)
		}
		return k
	}
	for i, k := range []api.Key{and(1), and(23), nest(6), {Kind: api.KeyText, S: "\x00\xff"}, {Kind: api.KeyHeader, S: "a b", T: "\r"}, {Kind: api.KeyHeader}, {Kind: api.KeyLarger, N: 999999999}, {Kind: api.KeyUid, Set: make([]api.Range, 64)}, {Kind: api.KeyNoFlag, S: `\Draft`}, {Kind: api.KeyFlag, S: "$cub5"}} {
		if !search.Right(k) {
			t.Errorf("P17.1: row %d is right", i)
		}
	}
	for i, k := range []api.Key{
		{}, {Kind: 17}, {Kind: -1}, {Kind: math.MinInt}, {Kind: api.KeyAll, S: "x"}, {Kind: api.KeyAll, N: 1}, {Kind: api.KeyAll, Set: set}, {Kind: api.KeyAll, Keys: []api.Key{all}}, {Kind: api.KeyFlag}, {Kind: api.KeyFlag, S: `\seen`}, {Kind: api.KeyFlag, S: "Foo"}, {Kind: api.KeyNoFlag, S: "a b"}, {Kind: api.KeyFlag, S: "a", T: "b"},
		{Kind: api.KeyUid}, {Kind: api.KeySet}, {Kind: api.KeySet, Set: make([]api.Range, 65)}, {Kind: api.KeySet, Set: set, S: "x"}, {Kind: api.KeyFrom, T: "x"}, {Kind: api.KeyBody, N: 2}, {Kind: api.KeyHeader, N: 2}, {Kind: api.KeyText, Set: set}, {Kind: api.KeyLarger, N: -1}, {Kind: api.KeySmaller, N: 1000000000}, {Kind: api.KeySmaller, S: "x"},
		{Kind: api.KeyNot}, {Kind: api.KeyNot, Keys: []api.Key{all, all}}, {Kind: api.KeyOr, Keys: []api.Key{all}}, {Kind: api.KeyOr, Keys: []api.Key{all, all, all}}, {Kind: api.KeyAnd}, {Kind: api.KeyNot, Keys: []api.Key{{}}}, {Kind: api.KeyAnd, Keys: []api.Key{all}, S: "x"},
		and(24), nest(7), around[0], nest(100000),
	} {
		if search.Right(k) {
			t.Errorf("P17.1: row %d is not right", i)
		}
		if search.Match(k, letter()) {
			t.Errorf("P17.2: row %d is matched", i)
		}
	}
}

func TestNeeds(t *testing.T) {
	for _, s := range []string{"FROM a", "TO a", "SUBJECT a", "BODY a", "TEXT a", "HEADER a b", "NOT FROM a", "OR ALL TEXT a", "(ALL (ALL NOT BODY a))"} {
		if !search.Needs(keys(t, s)[0]) {
			t.Errorf("P17.1: Needs of %s", s)
		}
	}
	for _, s := range []string{"ALL", "SEEN", "UNSEEN", "KEYWORD x", "UID 1", "1", "LARGER 1", "SMALLER 1", "NOT SEEN", "OR 1 2", "(ALL NOT (SEEN))"} {
		if search.Needs(keys(t, s)[0]) {
			t.Errorf("P17.1: Needs of %s", s)
		}
	}
	around := make([]api.Key, 1)
	around[0] = api.Key{Kind: api.KeyAnd, Keys: around}
	search.Needs(around[0])
}
