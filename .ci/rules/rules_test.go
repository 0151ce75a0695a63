// Package rules_test holds the program's packages against the rules of its language, as far as their text shows.
package rules_test

import (
	"os"
	"path/filepath"
	"slices"
	"strings"
	"testing"
)

// layers are the packages of the document's map; what they import of the project is looked at too.
var layers = strings.Fields(`fdset ticks heap ring flag prio chain bucket common sigs world moves sel pol epl kqu
	change evmap dpoll dqueue driver timer event base trace bufev limit pair model console`)

func TestProgram(t *testing.T) {
	work := slices.Clone(layers)
	for i := 0; i < len(work); i++ {
		entries, err := os.ReadDir(filepath.Join("../..", work[i]))
		if err != nil {
			t.Fatal(err)
		}
		for _, entry := range entries {
			file := filepath.Join(work[i], entry.Name())
			if strings.HasSuffix(file, "_test.go") {
				continue
			}
			if filepath.Ext(file) != ".go" {
				t.Errorf("%s is no Go file", file)
				continue
			}
			for _, path := range check(t, file) {
				if !slices.Contains(work, path) {
					work = append(work, path)
				}
			}
		}
	}
}

// check tells the faults of a file, and gives the project's packages that it imports.
func check(t *testing.T, file string) []string {
	source, err := os.ReadFile(filepath.Join("../..", file))
	if err != nil {
		t.Fatal(err)
	}
	l := look(string(source))
	for _, fault := range l.faults {
		t.Errorf("%s: %s", file, fault)
	}
	return l.own
}

// TestFaultsAreSeen: each text that breaks a rule is found out.
func TestFaultsAreSeen(t *testing.T) {
	long := "\nfunc f() {\n" + strings.Repeat("\tf()\n", 70) + "}\n"
	for source, want := range map[string]string{
		"\nimport \"fmt\"\n\nfunc f() { fmt.Print() }\n": "import of fmt",
		"\nimport \"C\"\n": "import of C",
		"\nimport \"time\"\n\nvar x = [1]int{1}\n\nfunc f() { time.Now() }\n":            "import of time",
		"\nimport \"iter\"\n\nfunc f(s iter.Seq[int]) { iter.Pull(s) }\n":                "name iter.Pull",
		"\nimport \"sync\"\n\ntype t struct{ p sync.Pool }\n":                            "name sync.Pool",
		"\n//go:noinline\nfunc f() {}\n":                                                 "line //go:noinline",
		"\nfunc f() { println(1) }\n":                                                    "printing",
		"\nfunc  f() {}\n":                                                               "not in gofmt's layout",
		"\nfunc f( {}\n":                                                                 "not Go",
		"\nvar x int\n":                                                                  "x has no written value",
		"\nvar x = map[int]int{1: 2}\n":                                                  "x has no written value",
		"\nvar x = []map[int]int{{1: 2}}\n":                                              "x has no written value",
		"\nvar x = f()\n\nfunc f() int { return 1 }\n":                                   "x has no written value",
		"\nvar x = func() {}\n":                                                          "x has no written value",
		"\nvar x = []func(){f}\n\nfunc f() {}\n":                                         "x has no written value",
		"\nvar x = &[1]int{1}\n":                                                         "x has no written value",
		"\nvar x = 1.5\n":                                                                "x has no written value",
		"\nvar x = \"text\"\n":                                                           "x is a constant",
		"\nvar x = [2]int{1, 2}\n\nvar y = [1][2]int{x}\n":                               "y names the variable x",
		"\nvar x = [2]int{1, 2}\n\nfunc f() { x = [2]int{} }\n":                          "x is assigned",
		"\nvar x = [2]int{1, 2}\n\nfunc f() { x[0]++ }\n":                                "x is assigned",
		"\nvar x = [2]int{1, 2}\n\nfunc f() { x[0] = 1 }\n":                              "x is assigned",
		"\nvar x = [2]int{1, 2}\n\nfunc f() *[2]int { return &x }\n":                     "the address of x is taken",
		"\nvar x = [2]int{1, 2}\n\nfunc f() []int { return x[:] }\n":                     "the address of x is taken",
		"\nfunc init() {}\n":                                                             "func init",
		"\nimport \"errors\"\n\nvar a, b = errors.New(\"a\"), errors.New(\"a\"+\"b\")\n": "b has no written value",
		long: "f has more than 60 lines",
	} {
		if l := look("package p\n" + source); !slices.Contains(l.faults, want) {
			t.Errorf("%.60q: %q, want %q", source, l.faults, want)
		}
	}
}

// TestGoodIsTaken: what the rules allow is no fault.
func TestGoodIsTaken(t *testing.T) {
	l := look("package p\n\nimport (\n\t\"errors\"\n\t\"sync\"\n\n\t\"roundhouse/api\"\n)\n\n" +
		"var a, b = errors.New(\"a\"), errors.New(\"b\")\n\nconst two = \"two\"\n\n" +
		"var words = [...]string{0: \"one\", 1: two}\n\nvar rows = []row{{api.Read, \"x\", true, -1 << 3}}\n\n" +
		"type row struct {\n\tn  int\n\ts  string\n\tis bool\n\tm  int\n}\n\ntype lock struct{ m sync.Mutex }\n\n" +
		"func f(n int) (string, error) {\n\tx := words[n]\n\tx = x[1:]\n\trows := []int{1}\n\trows[0] = 2\n\treturn x, a\n}\n")
	if len(l.faults) > 0 || !slices.Equal(l.own, []string{"api"}) {
		t.Errorf("%q, %q", l.faults, l.own)
	}
}
