package patch_test

import (
	"math"
	"slices"
	"sync"
	"testing"

	"minuet/api"
	"minuet/patch"
)

// Wrong inputs, and the rules of all calls.

// turns are ways to turn the base, so that it may not be.
func turns() map[string]func(x *api.Tree) {
	return map[string]func(x *api.Tree){
		"nothing at all":              func(x *api.Tree) { *x = api.Tree{} },
		"no nodes":                    func(x *api.Tree) { x.Nodes = nil },
		"an empty list":               func(x *api.Tree) { x.Nodes = []api.Node{} },
		"a list of a zero node":       func(x *api.Tree) { x.Nodes = []api.Node{{}} },
		"too many nodes":              func(x *api.Tree) { *x = wide(api.MaxNodes+1, 7, 1, 20); x.Root, x.Nodes[0].Id = 6, 6 },
		"far too many nodes":          func(x *api.Tree) { x.Nodes = slices.Repeat(x.Nodes, 10000) },
		"ids that fall":               func(x *api.Tree) { x.Nodes[0], x.Nodes[1] = x.Nodes[1], x.Nodes[0] },
		"ids that fall, last":         func(x *api.Tree) { x.Nodes[8], x.Nodes[9] = x.Nodes[9], x.Nodes[8] },
		"ids turned":                  func(x *api.Tree) { slices.Reverse(x.Nodes) },
		"an id twice":                 func(x *api.Tree) { x.Nodes = slices.Insert(x.Nodes, 1, x.Nodes[0]) },
		"the root twice":              func(x *api.Tree) { x.Nodes = slices.Insert(x.Nodes, 4, x.Nodes[3]) },
		"the last twice":              func(x *api.Tree) { x.Nodes = append(x.Nodes, x.Nodes[9]) },
		"an id below 0":               func(x *api.Tree) { x.Nodes[0].Id = -1; node(x, 41).Kids = []int{-1, 49} },
		"an id at Next":               func(x *api.Tree) { x.Next = 49 },
		"ids behind Next":             func(x *api.Tree) { x.Next = 20 },
		"Next at 0":                   func(x *api.Tree) { x.Next = 0 },
		"Next below 0":                func(x *api.Tree) { x.Next = -1 },
		"Next behind MaxIds":          func(x *api.Tree) { x.Next = api.MaxIds + 1 },
		"an id at MaxIds":             func(x *api.Tree) { put(x, nd(api.MaxIds, 'E', 20, 20)); node(x, 6).Kids = []int{9, 40, api.MaxIds} },
		"no NodeRoot":                 func(x *api.Tree) { node(x, 6).Kind = api.NodeError },
		"two of them":                 func(x *api.Tree) { node(x, 40).Kind = api.NodeRoot },
		"two of them, none a child":   func(x *api.Tree) { put(x, nd(60, 'R', 0, 20)) },
		"Root is another one":         func(x *api.Tree) { x.Root = 9 },
		"Root is a leaf":              func(x *api.Tree) { x.Root = 0 },
		"Root is none":                func(x *api.Tree) { x.Root = 7 },
		"Root is below 0":             func(x *api.Tree) { x.Root = -1 },
		"Root is Next":                func(x *api.Tree) { x.Root = 50 },
		"Root is the root's place":    func(x *api.Tree) { x.Root = 3 },
		"the root from 1 on":          func(x *api.Tree) { node(x, 6).From = 1 },
		"the root from -1 on":         func(x *api.Tree) { node(x, 6).From = -1 },
		"the root shorter than kids":  func(x *api.Tree) { node(x, 6).To = 19 },
		"the root to 0":               func(x *api.Tree) { node(x, 6).To = 0 },
		"the root to below 0":         func(x *api.Tree) { node(x, 6).To = -1 },
		"the root behind MaxLen":      func(x *api.Tree) { node(x, 6).To = api.MaxLen + 1 },
		"the root as a child":         func(x *api.Tree) { node(x, 41).Kids = []int{0, 49, 6} },
		"the root as its own child":   func(x *api.Tree) { node(x, 6).Kids = []int{6, 9, 40} },
		"nobody's child":              func(x *api.Tree) { node(x, 6).Kids = []int{9} },
		"nobody's child, a leaf":      func(x *api.Tree) { node(x, 2).Kids = []int{30} },
		"the child of two":            func(x *api.Tree) { node(x, 40).Kids = []int{41, 49}; node(x, 49).From, node(x, 49).To = 19, 19 },
		"twice of one":                func(x *api.Tree) { node(x, 41).Kids = []int{0, 49, 49} },
		"its own child":               func(x *api.Tree) { node(x, 40).Kids = []int{40} },
		"a ring":                      func(x *api.Tree) { node(x, 6).Kids = []int{9}; node(x, 41).Kids = []int{0, 49, 40} },
		"no such child":               func(x *api.Tree) { node(x, 9).Kids = []int{11, 2, 3} },
		"no such child, below 0":      func(x *api.Tree) { node(x, 9).Kids = []int{-1, 11, 2} },
		"no such child, Next":         func(x *api.Tree) { node(x, 9).Kids = []int{11, 2, 50} },
		"a long row of one":           func(x *api.Tree) { node(x, 9).Kids = slices.Repeat([]int{11}, 1000000) },
		"a text's child":              func(x *api.Tree) { node(x, 2).Kind = api.NodeText },
		"a number's child":            func(x *api.Tree) { node(x, 41).Kind = api.NodeNumber },
		"a word's child":              func(x *api.Tree) { node(x, 9).Kind = api.NodeWord },
		"a kind below 0":              func(x *api.Tree) { node(x, 11).Kind = -1 },
		"a kind behind the last":      func(x *api.Tree) { node(x, 11).Kind = api.NodeError + 1 },
		"From behind To":              func(x *api.Tree) { node(x, 49).From, node(x, 49).To = 14, 13 },
		"ahead of its parent":         func(x *api.Tree) { node(x, 0).From = 7 },
		"behind its parent":           func(x *api.Tree) { node(x, 5).To = 9 },
		"ahead of 0":                  func(x *api.Tree) { node(x, 9).From = -1 },
		"behind the root":             func(x *api.Tree) { node(x, 40).To = 21 },
		"two that overlap":            func(x *api.Tree) { node(x, 5).From = 5 },
		"two in the wrong row":        func(x *api.Tree) { node(x, 2).Kids = []int{5, 30} },
		"two in the wrong row, above": func(x *api.Tree) { node(x, 6).Kids = []int{40, 9} },
	}
}

// refusedAtAnySize: is there no tree, of whatever size it should be?
func refusedAtAnySize(t *testing.T, name string, x api.Tree, ss []api.Step) {
	t.Helper()
	for _, to := range []int{size(x), baseSize, 0, -1, 3, api.MaxLen, api.MaxLen + 1} {
		refused(t, name, x, ss, to)
	}
}

// mended is the steps that would make the base of a tree that may not be, if it were taken: each id that is there goes.
func mended(x api.Tree) []api.Step {
	x = copyOf(x)
	x.Nodes = x.Nodes[:min(len(x.Nodes), 20)]
	slices.SortFunc(x.Nodes, func(a, b api.Node) int { return a.Id - b.Id })
	x.Nodes = slices.CompactFunc(x.Nodes, func(a, b api.Node) bool { return a.Id == b.Id })
	return anew(x, base())
}

func TestRefusesTreesThatMayNotBe(t *testing.T) {
	for name, turn := range turns() {
		x := base()
		turn(&x)
		if mayBe(x) {
			t.Fatalf("%s: the test is wrong", name)
		}
		refusedAtAnySize(t, name, x, nil)
		refusedAtAnySize(t, name+", a step", x, steps("S0(9-11)"))
		refusedAtAnySize(t, name+", mended", x, mended(x))
		refusedAtAnySize(t, name+", a wrong step", x, steps("S0(9-8)"))
	}
}

// One thing of the base turned by just the step that would turn it back.
func TestRefusesTreesThatStepsWouldMend(t *testing.T) {
	for ss, turn := range map[string]func(x *api.Tree){
		"S0(9-12)":                         func(x *api.Tree) { node(x, 0).From = 7 },
		"S6(0-20)":                         func(x *api.Tree) { node(x, 6).To = 19 },
		"S41(8-19)":                        func(x *api.Tree) { node(x, 41).To = 21 },
		"S49(12-12)":                       func(x *api.Tree) { node(x, 49).From = 13 },
		"K41(0 49)":                        func(x *api.Tree) { node(x, 41).Kids = []int{0} },
		"K6(9 40)":                         func(x *api.Tree) { node(x, 6).Kids = []int{40, 9} },
		"D50":                              func(x *api.Tree) { put(x, nd(50, 'E', 9, 9)) },
		"C49=E S49(12-12)":                 func(x *api.Tree) { drop(x, 49) },
		"D49 C49=E S49(12-12)":             func(x *api.Tree) { node(x, 49).Kind = 8 },
		"D40 C40=E S40(8-20) K40(41)":      func(x *api.Tree) { node(x, 40).Kind = api.NodeRoot },
		"C6=R S6(0-20) K6(9 40)":           func(x *api.Tree) { drop(x, 6) },
		"D6 C6=R S6(0-20) K6(9 40)":        func(x *api.Tree) { node(x, 6).Kind = api.NodeError },
		"C70=E K41(0 49 70) D70 K41(0 49)": func(x *api.Tree) { x.Next = 49 },
	} {
		x := base()
		turn(&x)
		refusedAtAnySize(t, ss, x, steps(ss))
	}
}

// told is the tree to which steps would lead that tell a tree's nodes: they tell nothing of its Root, Next and row.
func told(x api.Tree) api.Tree {
	x = copyOf(x)
	slices.SortFunc(x.Nodes, func(a, b api.Node) int { return a.Id - b.Id })
	x.Root, x.Next = 6, 50
	for _, n := range x.Nodes {
		x.Next = max(x.Next, n.Id+1)
	}
	return x
}

// Steps lead to each tree that may not be, as far as they may tell it.
func TestRefusesTreesBehindAll(t *testing.T) {
	asked, may := 0, 0
	lone := tree(6, nd(6, 'R', 0, 3))
	for name, turn := range turns() {
		x := become(turn)
		if mayBe(told(x)) {
			continue
		}
		asked++
		ss := anew(base(), x)
		if !slices.ContainsFunc(ss, func(s api.Step) bool { return !plainStep(s) }) {
			may++
		}
		refusedAtAnySize(t, name, base(), ss)
		refusedAtAnySize(t, name+", from a root alone", lone, anew(lone, x))
	}
	if asked < 40 || may < 30 {
		t.Errorf("steps tell %d of the trees, and of %d each step may be", asked, may)
	}
}

// wrongSteps are steps that may not be, of a node that is there (or, to create one, is not).
func wrongSteps() map[string]api.Step {
	kids := func(n int) []int { return slices.Repeat([]int{49}, n) }
	return map[string]api.Step{
		"an id below 0, drop":         {Kind: api.StepDrop, Id: -1},
		"an id below 0, create":       {Kind: api.StepCreate, Id: -1, Node: api.NodeWord},
		"an id below 0, kids":         {Kind: api.StepKids, Id: -1, Kids: []int{49}},
		"an id below 0, span":         {Kind: api.StepSpan, Id: -1, To: 3},
		"MaxIds, drop":                {Kind: api.StepDrop, Id: api.MaxIds},
		"MaxIds, create":              {Kind: api.StepCreate, Id: api.MaxIds, Node: api.NodeWord},
		"MaxIds, kids":                {Kind: api.StepKids, Id: api.MaxIds, Kids: []int{49}},
		"MaxIds, span":                {Kind: api.StepSpan, Id: api.MaxIds, To: 3},
		"far below, create":           {Kind: api.StepCreate, Id: math.MinInt, Node: api.NodeWord},
		"far above, create":           {Kind: api.StepCreate, Id: math.MaxInt, Node: api.NodeWord},
		"a kind below 0":              {Kind: -1, Id: 41},
		"a kind behind the last":      {Kind: api.StepSpan + 1, Id: 41},
		"a kind behind, with a span":  {Kind: api.StepSpan + 1, Id: 41, From: 8, To: 19},
		"a kind behind, of no node":   {Kind: api.StepSpan + 1, Id: 99},
		"a kind far behind":           {Kind: math.MaxInt, Id: 41},
		"a Node below 0":              {Kind: api.StepCreate, Id: 99, Node: -1},
		"a Node behind the last":      {Kind: api.StepCreate, Id: 99, Node: api.NodeError + 1},
		"a Node far behind":           {Kind: api.StepCreate, Id: 99, Node: math.MaxInt},
		"From below 0":                {Kind: api.StepSpan, Id: 41, From: -1, To: 19},
		"From behind To":              {Kind: api.StepSpan, Id: 41, From: 9, To: 8},
		"From behind To, far":         {Kind: api.StepSpan, Id: 41, From: math.MaxInt, To: math.MinInt},
		"To above MaxLen":             {Kind: api.StepSpan, Id: 41, From: 8, To: api.MaxLen + 1},
		"both above MaxLen":           {Kind: api.StepSpan, Id: 41, From: api.MaxLen + 1, To: api.MaxLen + 1},
		"To far above":                {Kind: api.StepSpan, Id: 41, From: 8, To: math.MaxInt},
		"both below 0":                {Kind: api.StepSpan, Id: 41, From: -2, To: -1},
		"a child below 0":             {Kind: api.StepKids, Id: 41, Kids: []int{0, -1}},
		"a child below 0, first":      {Kind: api.StepKids, Id: 41, Kids: []int{-1, 49}},
		"a child at MaxIds":           {Kind: api.StepKids, Id: 41, Kids: []int{0, api.MaxIds}},
		"a child at MaxIds, alone":    {Kind: api.StepKids, Id: 41, Kids: []int{api.MaxIds}},
		"a child far below":           {Kind: api.StepKids, Id: 41, Kids: []int{0, math.MinInt}},
		"too many children":           {Kind: api.StepKids, Id: 41, Kids: kids(api.MaxNodes + 1)},
		"far too many":                {Kind: api.StepKids, Id: 41, Kids: kids(1000000)},
		"drop: Node":                  {Kind: api.StepDrop, Id: 41, Node: 1},
		"drop: From":                  {Kind: api.StepDrop, Id: 41, From: 1, To: 1},
		"drop: From alone":            {Kind: api.StepDrop, Id: 41, From: 1},
		"drop: To":                    {Kind: api.StepDrop, Id: 41, To: 1},
		"drop: Kids":                  {Kind: api.StepDrop, Id: 41, Kids: []int{0}},
		"drop: a Node below 0":        {Kind: api.StepDrop, Id: 41, Node: -1},
		"create: From":                {Kind: api.StepCreate, Id: 99, Node: 6, From: 1, To: 1},
		"create: From alone":          {Kind: api.StepCreate, Id: 99, Node: 6, From: 1},
		"create: To":                  {Kind: api.StepCreate, Id: 99, Node: 6, To: 1},
		"create: Kids":                {Kind: api.StepCreate, Id: 99, Node: 2, Kids: []int{0}},
		"create: From below 0":        {Kind: api.StepCreate, Id: 99, Node: 6, From: -1},
		"kids: Node":                  {Kind: api.StepKids, Id: 41, Node: 1, Kids: []int{0, 49}},
		"kids: From":                  {Kind: api.StepKids, Id: 41, From: 8, To: 19, Kids: []int{0, 49}},
		"kids: From alone":            {Kind: api.StepKids, Id: 41, From: 8, Kids: []int{0, 49}},
		"kids: To":                    {Kind: api.StepKids, Id: 41, To: 19, Kids: []int{0, 49}},
		"kids: Node, of none":         {Kind: api.StepKids, Id: 49, Node: 1},
		"span: Node":                  {Kind: api.StepSpan, Id: 41, Node: 2, From: 8, To: 19},
		"span: Kids":                  {Kind: api.StepSpan, Id: 41, From: 8, To: 19, Kids: []int{0, 49}},
		"span: Kids, of none":         {Kind: api.StepSpan, Id: 49, From: 12, To: 12, Kids: []int{0}},
		"span: Node, at 0":            {Kind: api.StepSpan, Id: 49, Node: 7},
		"all fields":                  {Kind: api.StepKids, Id: 41, Node: 2, From: 8, To: 19, Kids: []int{0, 49}},
		"all fields far":              {Kind: math.MaxInt, Id: math.MinInt, Node: math.MaxInt, From: math.MinInt, To: math.MaxInt, Kids: []int{math.MinInt}},
		"create an id that's there":   {Kind: api.StepCreate, Id: 41, Node: api.NodeArray},
		"create the root":             {Kind: api.StepCreate, Id: 6},
		"create one in another kind":  {Kind: api.StepCreate, Id: 0, Node: api.NodeWord},
		"drop an id that isn't there": {Kind: api.StepDrop, Id: 99},
		"kids of an id not there":     {Kind: api.StepKids, Id: 99, Kids: []int{0}},
		"no kids of an id not there":  {Kind: api.StepKids, Id: 99},
		"a span of an id not there":   {Kind: api.StepSpan, Id: 99, From: 1, To: 2},
		"a span of Next":              {Kind: api.StepSpan, Id: 50},
		"drop the root's place":       {Kind: api.StepDrop, Id: 3},
		"drop the last id":            {Kind: api.StepDrop, Id: api.MaxIds - 1},
	}
}

// At the first step, between, and at the last one; what comes behind would make up for it.
func TestRefusesStepsThatMayNotBe(t *testing.T) {
	row := steps("S0(9-11) C20=W K41(0 49 20) S20(13-14) D11 K9(2)")
	want := shown(taken(t, "the row", base(), row, baseSize))
	for name, wrong := range wrongSteps() {
		refused(t, name+", alone", base(), []api.Step{wrong}, baseSize)
		for at := range len(row) + 1 {
			refused(t, name+", among others", base(), slices.Insert(slices.Clone(row), at, wrong), baseSize)
		}
		refused(t, name+", and all anew", base(), append([]api.Step{wrong}, anew(base(), base())...), baseSize)
		refused(t, name+", twice", base(), []api.Step{wrong, wrong}, baseSize)
		refused(t, name+", and dropped", base(), []api.Step{wrong, {Kind: api.StepDrop, Id: wrong.Id}}, baseSize)
		all := slices.Repeat(steps("S0(9-12)"), 4*api.MaxNodes)
		all[len(all)-1] = wrong
		refused(t, name+", behind the most", base(), all, baseSize)
	}
	if got := shown(taken(t, "the row again", base(), row, baseSize)); got != want {
		t.Errorf("R5: %s, want %s", got, want)
	}
}

// An id that is there, or is not, as the steps ahead have it.
func TestRefusesByTheStepsAhead(t *testing.T) {
	for _, ss := range []string{
		"D49 S49(12-12) K41(0)", "D49 K49() K41(0)", "D49 D49 K41(0)", "K41(0) D49 S49(12-12)", "C50=E C50=E K6(50 9 40)", "C50=E K6(50 9 40) C50=E", "S50(0-0) C50=E K6(50 9 40)", "K50() C50=E K6(50 9 40)",
		"D50 C50=E K6(50 9 40)", "C49=E D49 K41(0)", "D49 C49=E S49(12-12) C49=E", "C50=E D50 D50", "C50=E D50 S50(0-0)",
	} {
		refused(t, ss, base(), steps(ss), baseSize)
	}
}

// Steps that were done already: one that puts or takes away is refused then, others turn nothing.
func TestStepsTwice(t *testing.T) {
	for _, ss := range []string{"", "S0(9-11)", "K6(9 40) S0(9-11)", "S6(0-21)", "S40(8-21) S6(0-21) S41(9-19)"} {
		once := taken(t, ss, base(), steps(ss), lastTo(ss))
		lead(t, ss+" again", once, ss, size(once), shown(once))
	}
	for _, ss := range []string{"D49 K41(0)", "C50=E K6(50 9 40)", "D49 C50=E K41(0 50) S50(12-12)", "S0(9-11) D11 K9(2)", "C50=A K50(49) S50(12-19) K41(0 50)"} {
		once := taken(t, ss, base(), steps(ss), baseSize)
		refused(t, ss+" again", once, steps(ss), baseSize)
		refused(t, ss+" twice", base(), slices.Concat(steps(ss), steps(ss)), baseSize)
	}
	// But what was put and dropped may be so again.
	once := taken(t, "put and dropped", base(), steps("C50=E D50"), baseSize)
	lead(t, "put and dropped again", once, "C50=E D50", baseSize, shown(once))
}

// lastTo is the size of the base behind written steps: To of the last span of the root.
func lastTo(ss string) int {
	to := baseSize
	for _, s := range steps(ss) {
		if s.Kind == api.StepSpan && s.Id == 6 {
			to = s.To
		}
	}
	return to
}

// The greatest and the least numbers, in each field of a tree, of a step, and as a size.
func TestRefusesFarNumbers(t *testing.T) {
	for _, far := range []int{math.MaxInt, math.MaxInt - 1, math.MinInt, math.MinInt + 1} {
		for at := range base().Nodes {
			for name, turn := range map[string]func(n *api.Node){
				"Id":   func(n *api.Node) { n.Id = far },
				"Kind": func(n *api.Node) { n.Kind = far },
				"From": func(n *api.Node) { n.From = far },
				"To":   func(n *api.Node) { n.To = far },
				"both": func(n *api.Node) { n.From, n.To = far, far },
				"Kids": func(n *api.Node) { n.Kids = append(n.Kids, far) },
			} {
				x := base()
				turn(&x.Nodes[at])
				refusedAtAnySize(t, name, x, nil)
				refused(t, name, x, nil, far)
			}
		}
		for name, turn := range map[string]func(x *api.Tree){
			"Root": func(x *api.Tree) { x.Root = far },
			"Next": func(x *api.Tree) { x.Next = far },
			"all": func(x *api.Tree) {
				*x = api.Tree{Root: far, Next: far, Nodes: []api.Node{{Id: far, Kind: far, From: far, To: far, Kids: []int{far}}}}
			},
			"no nodes": func(x *api.Tree) { *x = api.Tree{Root: far, Next: far} },
		} {
			x := base()
			turn(&x)
			refusedAtAnySize(t, name, x, nil)
			refused(t, name, x, nil, far)
		}
		for kind := api.StepDrop; kind <= api.StepSpan; kind++ {
			for name, turn := range map[string]func(s *api.Step){
				"Kind": func(s *api.Step) { s.Kind = far },
				"Id":   func(s *api.Step) { s.Id = far },
				"Node": func(s *api.Step) { s.Node = far },
				"From": func(s *api.Step) { s.From = far },
				"To":   func(s *api.Step) { s.To = far },
				"Kids": func(s *api.Step) { s.Kids = []int{far} },
			} {
				s := api.Step{Kind: kind, Id: 41}
				if kind == api.StepCreate {
					s.Id = 99
				}
				turn(&s)
				refused(t, name, base(), []api.Step{s}, baseSize)
				refused(t, name+", and all anew", base(), append([]api.Step{s}, anew(base(), base())...), baseSize)
			}
		}
		refused(t, "the size", base(), nil, far)
	}
}

const mark = -77

// roomy is a tree in memory of its own, with spare room that is marked.
func roomy(x api.Tree) api.Tree {
	out := make([]api.Node, len(x.Nodes), len(x.Nodes)+3)
	for i := range out[:cap(out)] {
		out[:cap(out)][i] = api.Node{Id: mark, Kids: []int{mark}}
	}
	for i, n := range x.Nodes {
		n.Kids = roomyKids(n.Kids)
		out[i] = n
	}
	x.Nodes = out
	return x
}

// roomyKids is a list in memory of its own, with spare room that is marked.
func roomyKids(kids []int) []int {
	out := append(append([]int(nil), kids...), mark, mark, mark)
	return out[:len(kids)]
}

// roomySteps are steps in memory of their own, with spare room that is marked.
func roomySteps(ss []api.Step) []api.Step {
	out := make([]api.Step, len(ss), len(ss)+3)
	for i := range out[:cap(out)] {
		out[:cap(out)][i] = api.Step{Id: mark, Kids: []int{mark}}
	}
	for i, s := range ss {
		s.Kids = roomyKids(s.Kids)
		out[i] = s
	}
	return out
}

// kept: is a roomy list as the one of which it was made, its spare room too?
func kept(kids, was []int) bool {
	return slices.Equal(kids, was) && slices.Equal(kids[len(kids):len(kids)+3], []int{mark, mark, mark})
}

// untouched: is a roomy tree as the one of which it was made, its spare room too?
func untouched(x, was api.Tree) bool {
	if !same(x, was) {
		return false
	}
	for i, n := range x.Nodes {
		if !kept(n.Kids, was.Nodes[i].Kids) {
			return false
		}
	}
	return !slices.ContainsFunc(x.Nodes[len(x.Nodes):cap(x.Nodes)], func(n api.Node) bool {
		return n.Id != mark || n.Kind != 0 || n.From != 0 || n.To != 0 || !slices.Equal(n.Kids, []int{mark})
	})
}

// untouchedSteps: are roomy steps as those of which they were made, their spare room too?
func untouchedSteps(ss, was []api.Step) bool {
	for i, s := range ss {
		w := was[i]
		if s.Kind != w.Kind || s.Id != w.Id || s.Node != w.Node || s.From != w.From || s.To != w.To || !kept(s.Kids, w.Kids) {
			return false
		}
	}
	return len(ss) == len(was) && !slices.ContainsFunc(ss[len(ss):cap(ss)], func(s api.Step) bool {
		return s.Kind != 0 || s.Id != mark || s.Node != 0 || s.From != 0 || s.To != 0 || !slices.Equal(s.Kids, []int{mark})
	})
}

// spoil writes over all that a tree holds, its spare room too.
func spoil(x api.Tree) {
	all := x.Nodes[:cap(x.Nodes)]
	for i := range all {
		kids := all[i].Kids[:cap(all[i].Kids)]
		for j := range kids {
			kids[j] = -5
		}
		all[i] = api.Node{Id: -5, Kind: -5, From: -5, To: -5, Kids: []int{-5}}
	}
}

// spoilSteps writes over all that steps hold, their spare room too.
func spoilSteps(ss []api.Step) {
	ss = ss[:cap(ss)]
	for i := range ss {
		kids := ss[i].Kids[:cap(ss[i].Kids)]
		for j := range kids {
			kids[j] = -5
		}
		ss[i] = api.Step{Kind: -5, Id: -5, Node: -5, From: -5, To: -5, Kids: []int{-5}}
	}
}

// call is what Apply is handed.
type call struct {
	tree  api.Tree
	steps []api.Step
	size  int
}

// calls are of each sort: with steps of all sorts, with none, and refused in several ways.
func calls() []call {
	wrong := become(func(x *api.Tree) { node(x, 49).To = 99 })
	lean := become(func(x *api.Tree) { node(x, 41).Kids = []int{}; drop(x, 0, 49) })
	out := []call{
		{base(), nil, baseSize}, {lean, nil, baseSize}, {must(""), nil, 0}, {base(), anew(base(), base()), baseSize}, {base(), anew(base(), lean), baseSize}, {lean, anew(lean, base()), baseSize},
		{base(), nil, 21}, {wrong, nil, baseSize}, {wrong, steps("S49(12-12)"), baseSize}, {api.Tree{}, anew(api.Tree{}, base()), baseSize},
		{wide(100, 1, 1, 9), anew(wide(100, 1, 1, 9), deep(100, 5000, 1, 9)), 9},
	}
	for _, ss := range []string{
		"S0(9-11)", "K6(9 40)", "K41(49) D0", "D0 D49 K41()", "C50=E K6(50 9 40)", "C50=A K50(49) S50(12-19) K41(0 50)", "C50=E D50", "D0 C0=N S0(9-12)", "K41(1 2 3) K41(0 49)",
		"C50=E", "S0(9-8)", "K41(0)", "D0", "D99", "S6(0-21)", "C1=W C3=W C4=W K6(1 3 4 9 40)",
	} {
		out = append(out, call{base(), steps(ss), baseSize})
	}
	return out
}

// R4: what is handed in stays as it was, and what is answered shares no memory with it, nor with another answer.
func TestLeavesWhatIsHandedIn(t *testing.T) {
	for i, c := range calls() {
		x, ss := roomy(c.tree), roomySteps(c.steps)
		stay := func(what string) {
			t.Helper()
			if !untouched(x, c.tree) || !untouchedSteps(ss, c.steps) {
				t.Fatalf("R4: row %d: %s: %s, %s", i, what, brief(shown(x)), brief(ss))
			}
		}
		got, e := patch.Apply(x, ss, c.size)
		stay("changed")
		was := copyOf(got)
		spoil(got)
		stay("shared")
		again, f := patch.Apply(x, ss, c.size)
		if e != f || !same(again, was) {
			t.Fatalf("R5: row %d: %s, %d, then %s, %d", i, brief(shown(was)), e, brief(shown(again)), f)
		}
		third, _ := patch.Apply(x, ss, c.size)
		spoil(third)
		if !same(again, was) {
			t.Fatalf("R4: row %d: two answers share: %s", i, brief(shown(again)))
		}
		spoil(x)
		spoilSteps(ss)
		if !same(again, was) {
			t.Fatalf("R4: row %d: an answer hangs on what was handed in: %s", i, brief(shown(again)))
		}
	}
}

// spread: do no two lists of one answer share memory, their spare room neither? Each is filled with a number of its own.
func spread(t *testing.T, x api.Tree, ss []api.Step, size int) {
	t.Helper()
	got, e := patch.Apply(x, ss, size)
	if e != api.OK {
		t.Fatalf("P15.1: %d", e)
	}
	for i, n := range got.Nodes {
		for j := range cap(n.Kids) {
			n.Kids[:cap(n.Kids)][j] = i
		}
	}
	for i, n := range got.Nodes {
		for _, k := range n.Kids[:cap(n.Kids)] {
			if k != i {
				t.Fatalf("R4: the lists of nodes %d and %d are one: %s", i, k, brief(shown(got)))
			}
		}
	}
}

func TestListsOfOneAnswerAreTheirOwn(t *testing.T) {
	for _, c := range calls() {
		if _, e := plainly(c.tree, c.steps, c.size); e == api.OK {
			spread(t, roomy(c.tree), roomySteps(c.steps), c.size)
		}
	}
	// All children of the tree are pieces of one list, and so are those of the steps.
	all := []int{1, 2, 3}
	x := tree(0, nd(0, 'R', 0, 0), nd(1, 'A', 0, 0), nd(2, 'A', 0, 0), nd(3, 'A', 0, 0))
	ss := steps("K0() K1() K2() K0() K1() K2()")
	for i := range all {
		x.Nodes[i].Kids = all[i : i+1]
		ss[3+i].Kids = all[i : i+1]
	}
	spread(t, x, nil, 0)
	spread(t, x, ss, 0)
	spread(t, x, ss[3:], 0)
	if !slices.Equal(all, []int{1, 2, 3}) {
		t.Errorf("R4: %v", all)
	}
}

// R4: a list of no children is no piece of one that was handed in.
func TestNoChildrenAreNobodysList(t *testing.T) {
	room := []int{7, 8, 9}
	x := tree(0, nd(0, 'R', 0, 0, 1), nd(1, 'E', 0, 0))
	x.Nodes[1].Kids = room[:0]
	none := steps("D1 K0()")
	none[1].Kids = room[:0]
	for _, ss := range [][]api.Step{nil, none} {
		got := taken(t, "no children", x, ss, 0)
		for _, n := range got.Nodes {
			if more := append(n.Kids, 1, 2, 3); !slices.Equal(room, []int{7, 8, 9}) || !slices.Equal(more[len(n.Kids):], []int{1, 2, 3}) {
				t.Errorf("R4: %v, %v", room, more)
			}
		}
	}
}

// R5: several call at one time.
func TestSeveralAtOneTime(t *testing.T) {
	all := calls()
	var wait sync.WaitGroup
	fail := make([]string, 8)
	for i := range fail {
		wait.Add(1)
		go func() {
			defer wait.Done()
			for range 50 {
				for _, c := range all {
					got, e := patch.Apply(c.tree, c.steps, c.size)
					want, f := plainly(c.tree, c.steps, c.size)
					if e != f || !same(got, want) {
						fail[i] = shown(got)
					}
					spoil(got)
				}
			}
		}()
	}
	wait.Wait()
	for _, f := range fail {
		if f != "" {
			t.Errorf("R5: %s", brief(f))
		}
	}
}
