// Package faces tests what all layers have in common: the numbers that are given, the calls that the chapters list, and that nothing handed in harms any of them.
package faces

import (
	"testing"

	"harbinger/api"
	"harbinger/atns"
	"harbinger/checks"
	"harbinger/codes"
	"harbinger/configs"
	"harbinger/covers"
	"harbinger/desks"
	"harbinger/drivers"
	"harbinger/expects"
	"harbinger/follows"
	"harbinger/grams"
	"harbinger/lexers"
	"harbinger/looks"
	"harbinger/memos"
	"harbinger/mends"
	"harbinger/mins"
	"harbinger/nfas"
	"harbinger/nodes"
	"harbinger/nulls"
	"harbinger/octets"
	"harbinger/paths"
	"harbinger/prunes"
	"harbinger/ranges"
	"harbinger/renames"
	"harbinger/reports"
	"harbinger/rows"
	"harbinger/runes"
	"harbinger/samples"
	"harbinger/scans"
	"harbinger/subsets"
	"harbinger/tools"
	"harbinger/trees"
	"harbinger/witnesses"
)

// The calls of the chapters, each with its exact signature: another one does not build.
var (
	_ func(string, int) (rune, int, bool) = runes.Decode
	_ func(rune) string                   = runes.Encode
	_ func(string) int                    = runes.Bad
	_ func(string, int) api.Pos           = runes.Place
	_ func(string, int) (rune, int, bool) = runes.Escape
	_ func(rune) string                   = runes.Text

	_ func(string) ([]scans.Word, scans.Fault) = scans.Scan

	_ func(api.Node) int            = nodes.Count
	_ func(api.Node) int            = nodes.Deep
	_ func(api.Node, api.Node) bool = nodes.Same
	_ func(api.Node, bool) bool     = nodes.Plain
	_ func(api.Node) string         = nodes.Text
	_ func(api.Node) api.Node       = nodes.Copy

	_ func(string) (api.Grammar, scans.Fault) = grams.Read
	_ func(api.Grammar) string                = grams.Print
	_ func(api.Rule) string                   = grams.Rule
	_ func(api.Grammar) bool                  = grams.Sound

	_ func(api.Grammar) []bool              = nulls.Empty
	_ func(api.Grammar, int, api.Node) bool = nulls.May
	_ func(api.Grammar) [][]bool            = nulls.Reach
	_ func(api.Grammar, string) int         = nulls.Find

	_ func(api.Grammar) []checks.Problem       = checks.Check
	_ func(api.Grammar) bool                   = checks.Fine
	_ func(api.Grammar) int                    = checks.Start
	_ func(api.Grammar, ...api.Sort) []int     = checks.Of
	_ func([]api.Range) []api.Range            = ranges.Neat
	_ func(...[]api.Range) []api.Range         = ranges.Union
	_ func(_, _ []api.Range) []api.Range       = ranges.Minus
	_ func(_, _ []api.Range) []api.Range       = ranges.Both
	_ func([]api.Range, rune) bool             = ranges.Has
	_ func(...[]api.Range) []api.Range         = ranges.Split
	_ func([]api.Range, rune) int              = ranges.Class
	_ func(api.Grammar) (nfas.Auto, api.Errno) = nfas.Build

	_ func(nfas.Auto) (subsets.Table, api.Errno)     = subsets.Of
	_ func(subsets.Table) bool                       = subsets.May
	_ func(subsets.Table, int, rune) int             = subsets.Table.Step
	_ func(subsets.Table) (subsets.Table, api.Errno) = mins.Least
	_ func(_, _ subsets.Table) bool                  = mins.Alike

	_ func(subsets.Table, []bool) (*lexers.Lexer, api.Errno)     = lexers.New
	_ func(*lexers.Lexer, string, int) (int, int)                = (*lexers.Lexer).Longest
	_ func(*lexers.Lexer, string) ([]api.Token, int, api.Errno)  = (*lexers.Lexer).Tokens
	_ func(api.Grammar) (atns.Net, api.Errno)                    = atns.Build
	_ func(atns.Net) bool                                        = atns.May
	_ func(atns.Net, int, int, []int) ([]bool, api.Errno)        = paths.Ways
	_ func(atns.Net, int, int, []int) bool                       = paths.Along
	_ func(atns.Net, int, int) (*configs.View, api.Errno)        = configs.New
	_ func(*configs.View) configs.Set                            = (*configs.View).Start
	_ func(*configs.View, configs.Set, int) configs.Set          = (*configs.View).Move
	_ func(configs.Set) bool                                     = configs.Set.Done
	_ func(atns.Net, int, int, int, int) (looks.Auto, api.Errno) = looks.Build
	_ func(atns.Net, int, int, int) ([]looks.Auto, api.Errno)    = looks.All
	_ func(looks.Auto, int, int) bool                            = prunes.May
	_ func(looks.Auto, []int) (looks.Kind, []int, int)           = prunes.Run
	_ func(looks.Auto, int, int) (looks.Auto, api.Errno)         = prunes.Least

	_ func([]byte, uint32) []byte                    = octets.Put
	_ func([]byte) (uint32, int, api.Errno)          = octets.Take
	_ func(*octets.Sums, []byte) uint32              = (*octets.Sums).Of
	_ func(*octets.Sums, []byte) []byte              = (*octets.Sums).Seal
	_ func(*octets.Sums, []byte) ([]byte, api.Errno) = (*octets.Sums).Open
	_ func([]int) (rows.Row, api.Errno)              = rows.Of
	_ func(rows.Row, int) int                        = rows.Row.At
	_ func(int, [][]int) (rows.Table, api.Errno)     = rows.Make
	_ func(rows.Table, int, int) int                 = rows.Table.At
	_ func(rows.Table) bool                          = rows.Table.May
	_ func([]byte, rows.Table) ([]byte, api.Errno)   = rows.Put
	_ func([]byte) (rows.Table, int, api.Errno)      = rows.Take
	_ func(codes.Tables) bool                        = codes.May
	_ func(codes.Tables) ([]byte, api.Errno)         = codes.Put
	_ func([]byte) (codes.Tables, api.Errno)         = codes.Get

	_ func(int, int, int) (*memos.Memo, api.Errno) = memos.New
	_ func(*memos.Memo, int, int, int) api.Errno   = (*memos.Memo).SayRule
	_ func(*memos.Memo, int, int) (int, bool)      = (*memos.Memo).Rule
	_ func(*memos.Memo, int, int, int) api.Errno   = (*memos.Memo).SayPick
	_ func(*memos.Memo, int, int) (int, bool)      = (*memos.Memo).Pick
	_ func(*memos.Memo) (int64, int64)             = (*memos.Memo).Counts
	_ func(*memos.Memo)                            = (*memos.Memo).Clear

	_ func(atns.Net, []looks.Auto) (*drivers.Driver, api.Errno)                   = drivers.New
	_ func(*drivers.Driver, []int, int, int) (api.Tree, drivers.Stats, api.Errno) = (*drivers.Driver).Parse
	_ func(*drivers.Driver, int) (int, int)                                       = (*drivers.Driver).Enough
	_ func(api.Grammar) (*follows.Sets, api.Errno)                                = follows.Of
	_ func(*follows.Sets, int) []int                                              = (*follows.Sets).First
	_ func(*follows.Sets, int) []int                                              = (*follows.Sets).Follow
	_ func(*follows.Sets, api.Node) ([]int, bool)                                 = (*follows.Sets).Begin
	_ func(*follows.Sets, api.Node) int                                           = (*follows.Sets).Low
	_ func(api.Grammar) (*mends.Mender, api.Errno)                                = mends.New
	_ func(*mends.Mender, []int) (api.Tree, []mends.Error, api.Errno)             = (*mends.Mender).Parse
	_ func([]looks.Auto) []witnesses.Conflict                                     = witnesses.Conflicts
	_ func(atns.Net, []looks.Auto) []witnesses.Dead                               = witnesses.Deads
	_ func(atns.Net, []looks.Auto) bool                                           = witnesses.Plain

	_ func(scans.Fault) string                             = reports.Fault
	_ func(api.Grammar, checks.Problem) string             = reports.Problem
	_ func(codes.Tables) []string                          = reports.Warnings
	_ func(codes.Tables, api.Tree, []api.Token) string     = reports.Tree
	_ func(string) ([]byte, []string, api.Errno)           = tools.Generate
	_ func([]byte, string, int) (string, int, api.Errno)   = tools.Parse
	_ func(_, _ string) (string, []string, int, api.Errno) = tools.Mend

	_ func(api.Grammar) (*samples.Book, api.Errno)            = samples.New
	_ func(*samples.Book, int) ([]int, bool)                  = (*samples.Book).Least
	_ func(*samples.Book, int) int                            = (*samples.Book).Long
	_ func(*samples.Book, int, int, int) ([][]int, api.Errno) = (*samples.Book).All
	_ func(*samples.Book, int, []int) bool                    = (*samples.Book).Has
	_ func(api.Grammar) (*expects.Table, api.Errno)           = expects.New
	_ func(*expects.Table, int, []int) ([]int, bool)          = (*expects.Table).Next
	_ func(*expects.Table, int, []int) int                    = (*expects.Table).Far
	_ func(*expects.Table, int, []int, int) ([]int, bool)     = (*expects.Table).Rest

	_ func(api.Grammar) (*trees.Checker, api.Errno)                     = trees.New
	_ func(*trees.Checker, api.Tree, int, []int) (trees.Finding, []int) = (*trees.Checker).Check
	_ func(api.Tree) []int                                              = trees.Leaves
	_ func(api.Tree, []int) (api.Tree, bool)                            = trees.At
	_ func(api.Tree, int) ([]int, bool)                                 = trees.To
	_ func(api.Tree, int) [][]int                                       = trees.All
	_ func(api.Tree) api.Tree                                           = trees.Cut
	_ func(api.Tree, []api.Token) string                                = trees.Text
	_ func(string, api.Sort) bool                                       = renames.May
	_ func(_ api.Grammar, _, _ string) (api.Grammar, api.Errno)         = renames.Rename
	_ func(api.Grammar) api.Grammar                                     = renames.Plain
	_ func(_, _ api.Grammar) bool                                       = renames.Alike
	_ func(codes.Tables) codes.Tables                                   = renames.Bare
	_ func(api.Grammar) (*covers.Cover, api.Errno)                      = covers.New
	_ func(*covers.Cover, []int) bool                                   = (*covers.Cover).Add
	_ func(*covers.Cover) (int64, int64)                                = (*covers.Cover).Inputs
	_ func(*covers.Cover, int) int64                                    = (*covers.Cover).Rule
	_ func(_ *covers.Cover, _, _ int) int64                             = (*covers.Cover).Took
	_ func(*covers.Cover) []covers.Alt                                  = (*covers.Cover).Missing
	_ func(_, _ *covers.Cover) bool                                     = (*covers.Cover).Join
	_ func(string) (string, int, bool)                                  = desks.Run
)

// The numbers that DOC.md tells are those of package api.
func TestNumbers(t *testing.T) {
	for i, e := range []api.Errno{api.OK, api.ErrArg, api.ErrNil, api.ErrLimit, api.ErrForm, api.ErrSum, api.ErrFuel, api.ErrDepth, api.ErrSyntax, api.ErrLex} {
		if int(e) != i {
			t.Error("error", i, "is", e)
		}
	}
	for i, k := range []api.Kind{api.KAlts, api.KSeq, api.KOpt, api.KStar, api.KPlus, api.KRef, api.KTok, api.KPred, api.KLit, api.KSet} {
		if int(k) != i {
			t.Error("kind", i, "is", k)
		}
	}
	for i, s := range []api.Sort{api.SParser, api.SToken, api.SFragment, api.SSkip} {
		if int(s) != i {
			t.Error("sort", i, "is", s)
		}
	}
	limits := [...]int{api.MaxText, api.MaxInput, api.MaxRules, api.MaxNodes, api.MaxDeep, api.MaxName, api.MaxStates, api.MaxAlts, api.MaxTokens, api.MaxBound}
	if limits != [...]int{65536, 65536, 64, 2048, 64, 64, 4096, 32, 16384, 8} {
		t.Error("limits", limits)
	}
}

// R1: each call ends with a value where nothing is handed in.
func TestNothing(t *testing.T) {
	for name, call := range nothing() {
		func() {
			defer func() {
				if x := recover(); x != nil {
					t.Error(name, "panics:", x)
				}
			}()
			call()
		}()
	}
}

// nothing has each layer's calls, with nothing handed in, and of nothing.
func nothing() map[string]func() {
	var (
		g   api.Grammar
		n   atns.Net
		lex *lexers.Lexer
		v   *configs.View
		u   *octets.Sums
		m   *memos.Memo
		d   *drivers.Driver
		f   *follows.Sets
		h   *mends.Mender
		b   *samples.Book
		x   *expects.Table
		c   *trees.Checker
		o   *covers.Cover
	)
	return map[string]func(){
		"runes": func() {
			runes.Decode("", 0)
			runes.Encode(0)
			runes.Bad("")
			runes.Place("", 0)
			runes.Escape("", 0)
			runes.Text(0)
		},
		"scans": func() { scans.Scan("") },
		"nodes": func() {
			k := api.Node{}
			nodes.Count(k)
			nodes.Deep(k)
			nodes.Same(k, k)
			nodes.Plain(k, true)
			nodes.Text(k)
			nodes.Copy(k)
		},
		"grams":  func() { grams.Read(""); grams.Print(g); grams.Rule(api.Rule{}); grams.Sound(g) },
		"nulls":  func() { nulls.Empty(g); nulls.May(g, 0, api.Node{}); nulls.Reach(g); nulls.Find(g, "") },
		"checks": func() { checks.Check(g); checks.Fine(g); checks.Start(g); checks.Of(g) },
		"ranges": func() {
			ranges.Neat(nil)
			ranges.Union()
			ranges.Minus(nil, nil)
			ranges.Both(nil, nil)
			ranges.Has(nil, 0)
			ranges.Split()
			ranges.Class(nil, 0)
		},
		"nfas":    func() { nfas.Build(g) },
		"subsets": func() { subsets.Of(nfas.Auto{}); subsets.May(subsets.Table{}); subsets.Table{}.Step(0, 0) },
		"mins":    func() { mins.Least(subsets.Table{}); mins.Alike(subsets.Table{}, subsets.Table{}) },
		"lexers":  func() { lexers.New(subsets.Table{}, nil); lex.Longest("", 0); lex.Tokens("") },
		"atns":    func() { atns.Build(g); atns.May(n) },
		"paths":   func() { paths.Ways(n, 0, 0, nil); paths.Along(n, 0, 0, nil) },
		"configs": func() { configs.New(n, 0, 0); v.Start(); v.Move(configs.Set{}, 0); configs.Set{}.Done() },
		"looks":   func() { looks.Build(n, 0, 0, 0, 0); looks.All(n, 0, 0, 0) },
		"prunes": func() {
			prunes.May(looks.Auto{}, 0, 0)
			prunes.Run(looks.Auto{}, nil)
			prunes.Least(looks.Auto{}, 0, 0)
		},
		"octets": func() { octets.Put(nil, 0); octets.Take(nil); u.Of(nil); u.Seal(nil); u.Open(nil) },
		"rows": func() {
			rows.Of(nil)
			rows.Row{}.At(0)
			rows.Make(0, nil)
			rows.Table{}.At(0, 0)
			rows.Table{}.May()
			rows.Put(nil, rows.Table{})
			rows.Take(nil)
		},
		"codes": func() { codes.May(codes.Tables{}); codes.Put(codes.Tables{}); codes.Get(nil) },
		"memos": func() {
			memos.New(0, 0, 0)
			m.SayRule(0, 0, 0)
			m.Rule(0, 0)
			m.SayPick(0, 0, 0)
			m.Pick(0, 0)
			m.Counts()
			m.Clear()
		},
		"drivers":   func() { drivers.New(n, nil); d.Parse(nil, 0, 0); d.Enough(0) },
		"follows":   func() { follows.Of(g); f.First(0); f.Follow(0); f.Begin(api.Node{}); f.Low(api.Node{}) },
		"mends":     func() { mends.New(g); h.Parse(nil) },
		"witnesses": func() { witnesses.Conflicts(nil); witnesses.Deads(n, nil); witnesses.Plain(n, nil) },
		"reports": func() {
			reports.Fault(scans.Fault{})
			reports.Problem(g, checks.Problem{})
			reports.Warnings(codes.Tables{})
			reports.Tree(codes.Tables{}, api.Tree{}, nil)
		},
		"tools":   func() { tools.Generate(""); tools.Parse(nil, "", 0); tools.Mend("", "") },
		"samples": func() { samples.New(g); b.Least(0); b.Long(0); b.All(0, 0, 0); b.Has(0, nil) },
		"expects": func() { expects.New(g); x.Next(0, nil); x.Far(0, nil); x.Rest(0, nil, 0) },
		"trees": func() {
			y := api.Tree{}
			trees.New(g)
			c.Check(y, 0, nil)
			trees.Leaves(y)
			trees.At(y, nil)
			trees.To(y, 0)
			trees.All(y, 0)
			trees.Cut(y)
			trees.Text(y, nil)
		},
		"renames": func() {
			renames.May("", 0)
			renames.Rename(g, "", "")
			renames.Plain(g)
			renames.Alike(g, g)
			renames.Bare(codes.Tables{})
		},
		"covers": func() {
			covers.New(g)
			o.Add(nil)
			o.Inputs()
			o.Rule(0)
			o.Took(0, 0)
			o.Missing()
			o.Join(o)
		},
		"desks": func() { desks.Run("") },
	}
}
