package conf_test

import (
	"fmt"
	"math"
	"slices"
	"strings"
	"testing"

	"belvedere/api"
	"belvedere/block"
	"belvedere/civil"
	"belvedere/conf"
	"belvedere/period"
	"belvedere/rule"
)

// isText asks for the text of tables, and for these tables of that text.
func isText(t *testing.T, c conf.Conf, want string) {
	t.Helper()
	was := tell(c)
	got, err := conf.Text(c)
	if got != want || err != nil {
		t.Errorf("Text(%s): %q, %v, not %q", was, got, err, want)
		return
	}
	if tell(c) != was {
		t.Errorf("Text(%s) changes it to %s", was, tell(c))
	}
	isSame(t, loadText(t, got), c)
}

// noText asks for ErrArg, and for nothing beside it.
func noText(t *testing.T, c conf.Conf) {
	t.Helper()
	was := tell(c)
	if got, err := conf.Text(c); got != "" || !holds(err, api.ErrArg) {
		t.Errorf("Text(%.2000s): %.2000q, %v, not error 1", was, got, err)
	}
	if tell(c) != was {
		t.Errorf("Text(%.2000s) changes it", was)
	}
}

// text is one of lines.
func text(lines ...string) string { return strings.Join(append(lines, ""), "\n") }

// plainHost is a host's text, of which nothing is said but its name, with lines in their places.
func plainHost(id string) string {
	return text(
		"define host {", "  active 1", "  first_delay 0", "  flap 1", "  flap_high 30", "  flap_low 20", "  id "+id, "  interval 300", "  max 3", "  notify 1",
		"  options w,u,c,r,f,s", "  renotify 3600", "  retry 60", "  timeout 30", "}",
	)
}

// CF2: the text of nothing.
func TestTextOfNothing(t *testing.T) {
	isText(t, conf.Conf{}, "")
	isText(t, conf.Conf{Names: []string{}, Periods: []period.Period{}, Contacts: []conf.Contact{}, Objects: []conf.Object{}, Deps: []conf.Dep{}, Escs: []conf.Esc{}}, "")
}

// CF2: timeperiods: their entries are counted anew.
func TestTextOfPeriods(t *testing.T) {
	entry := func(r rule.Rule, spans ...period.Span) period.Entry { return period.Entry{Rule: r, Spans: spans} }
	date := func(y, m, d int) civil.Date { return civil.Date{Y: y, M: m, D: d} }
	isText(t, conf.Conf{Names: []string{"b", "a", "c"}, Periods: []period.Period{
		{Exclude: []int{2, 1}, Entries: []period.Entry{
			entry(rule.Rule{Kind: rule.Nth, Month: 5, N: -1, Weekday: 1}, period.Span{From: 32400, To: 61200}),
			entry(rule.Rule{Kind: rule.Weekday, Weekday: 6}, period.Span{From: 60, To: 120}, period.Span{From: 0, To: api.Day}),
		}},
		{Entries: []period.Entry{entry(rule.Rule{Kind: rule.MonthDay, N: 31}, period.Span{To: 60})}},
		{Exclude: []int{1}, Entries: []period.Entry{entry(rule.Rule{Kind: rule.Dates, From: date(0, 2, 29), To: date(9999, 12, 31)}, period.Span{From: 86340, To: 86400})}},
	}}, text(
		"define timeperiod {", "  entry_1 nth 5 -1 1 = 09:00-17:00", "  entry_2 weekday 6 = 00:01-00:02,00:00-24:00", "  exclude c,a", "  id b", "}",
		"define timeperiod {", "  entry_1 day 0 31 = 00:00-00:01", "  id a", "}",
		"define timeperiod {", "  entry_1 dates 0-2-29 9999-12-31 = 23:59-24:00", "  exclude a", "  id c", "}",
	))
	c := load(t, "timeperiod|id a|entry_7 weekday 1 = 01:00-02:00|entry_9 weekday 2 = 01:00-02:00|entry_2 weekday 3 = 01:00-02:00")
	isText(t, c, text("define timeperiod {", "  entry_1 weekday 3 = 01:00-02:00", "  entry_2 weekday 1 = 01:00-02:00", "  entry_3 weekday 2 = 01:00-02:00", "  id a", "}"))
}

// CF2: contacts; a period of -1 is left out.
func TestTextOfContacts(t *testing.T) {
	isText(t, conf.Conf{Names: []string{"p", "q"}, Periods: make([]period.Period, 2), Contacts: []conf.Contact{
		{Name: "z", Period: noPeriod}, {Name: "a", Period: 1, Options: allOptions, Enabled: true}, {Name: "n", Period: 0, Options: 4 | 32},
	}}, text(
		"define timeperiod {", "  id p", "}", "define timeperiod {", "  id q", "}",
		"define contact {", "  enabled 0", "  id z", "  options n", "}",
		"define contact {", "  enabled 1", "  id a", "  options w,u,c,r,f,s", "  period q", "}",
		"define contact {", "  enabled 0", "  id n", "  options c,s", "  period p", "}",
	))
}

// CF2: hosts, and behind them services of one host each; lists that are empty are left out, all else is written.
func TestTextOfObjects(t *testing.T) {
	isText(t, conf.Conf{Objects: []conf.Object{plainObject("b"), plainObject("a")}}, plainHost("b")+plainHost("a"))

	full := conf.Object{
		Name: "b", Host: -1, Parents: []int{1, 0}, CheckPeriod: 1, NotifyPeriod: 0, Contacts: []int{0, 1}, Max: 100, Interval: 1, Retry: 7, Timeout: 0, FirstDelay: 9, Renotify: 0,
		FlapLow: 100, FlapHigh: 100,
	}
	of := plainObject("a/s")
	of.Host, of.Contacts, of.NotifyPeriod, of.Options = 1, []int{1}, 1, 8
	c := conf.Conf{
		Names: []string{"p", "q"}, Periods: make([]period.Period, 2), Contacts: []conf.Contact{{Name: "x", Period: -1}, {Name: "y", Period: -1}},
		Objects: []conf.Object{plainObject("c"), plainObject("a"), full, of},
	}
	isText(t, c, text(
		"define timeperiod {", "  id p", "}", "define timeperiod {", "  id q", "}",
		"define contact {", "  enabled 0", "  id x", "  options n", "}", "define contact {", "  enabled 0", "  id y", "  options n", "}",
	)+plainHost("c")+plainHost("a")+text(
		"define host {", "  active 0", "  check_period q", "  contacts x,y", "  first_delay 9", "  flap 0", "  flap_high 100", "  flap_low 100", "  id b", "  interval 1", "  max 100",
		"  notify 0", "  notify_period p", "  options n", "  parents a,c", "  renotify 0", "  retry 7", "  timeout 0", "}",
		"define service {", "  active 1", "  contacts y", "  first_delay 0", "  flap 1", "  flap_high 30", "  flap_low 20", "  hosts a", "  id s", "  interval 300", "  max 3",
		"  notify 1", "  notify_period q", "  options r", "  renotify 3600", "  retry 60", "  timeout 30", "}",
	))
	// Services may be in any order, also of one host.
	c = load(t, "host|id a", "host|id b", "service|id z|hosts b,a", "service|id y|hosts b", "service|id x|hosts a,b")
	got, err := conf.Text(c)
	if err != nil || objectNames(loadText(t, got)) != "a b a/z b/z b/y a/x b/x" || strings.Count(got, "define service {") != 5 || strings.Contains(got, "host_groups") {
		t.Errorf("%s, %v", got, err)
	}
}

// CF2: a dependency, and an escalation, for each row.
func TestTextOfRows(t *testing.T) {
	s := plainObject("a/s")
	s.Host = 0
	c := conf.Conf{
		Contacts: []conf.Contact{{Name: "x", Period: -1}, {Name: "y", Period: -1}}, Objects: []conf.Object{plainObject("a"), plainObject("b"), s},
		Deps: []conf.Dep{{On: 1, Of: 0, Execution: 12, Notification: 15}, {On: 1, Of: 2}, {On: 2, Of: 0, Execution: 1}, {On: 1, Of: 0}},
		Escs: []conf.Esc{{Of: 2, First: 1000, Last: 0, Contacts: []int{0, 1}, Renotify: 0}, {Of: 0, First: 1, Last: 1000, Renotify: 60}, {Of: 0, First: 1, Last: 1000, Renotify: 60}},
	}
	want, err := conf.Text(conf.Conf{Contacts: c.Contacts, Objects: c.Objects})
	if err != nil {
		t.Fatal(err)
	}
	isText(t, c, want+text(
		"define dependency {", "  execution c,u", "  notification o,w,c,u", "  of a", "  on b", "}",
		"define dependency {", "  execution n", "  notification n", "  of a/s", "  on b", "}",
		"define dependency {", "  execution o", "  notification n", "  of a", "  on a/s", "}",
		"define dependency {", "  execution n", "  notification n", "  of a", "  on b", "}",
		"define escalation {", "  contacts x,y", "  first 1000", "  last 0", "  of a/s", "  renotify 0", "}",
		"define escalation {", "  first 1", "  last 1000", "  of a", "  renotify 60", "}",
		"define escalation {", "  first 1", "  last 1000", "  of a", "  renotify 60", "}",
	))
}

// CF2 and CF3: seconds that are more than layer 10 reads without a unit, too; all others without one.
func TestTextOfSeconds(t *testing.T) {
	for _, n := range []int{1, 59, 60, 3600, api.Day, 9_999_960, 10_000_000, 10_000_020, 10_000_000 * 60, 166_668 * 3600, 10_000_000 * 3600, 416_667 * api.Day, 10_000_000 * api.Day} {
		o := plainObject("a")
		o.Interval, o.Retry, o.Timeout, o.FirstDelay, o.Renotify = n, n, n, n, n
		c := conf.Conf{Objects: []conf.Object{o}, Escs: []conf.Esc{{First: 1, Renotify: n}}}
		got, err := conf.Text(c)
		if err != nil {
			t.Errorf("%d seconds: %v", n, err)
			continue
		}
		isSame(t, loadText(t, got), c)
		if n <= 10_000_000 && strings.Count(got, fmt.Sprintf(" %d\n", n)) < 6 {
			t.Errorf("%d seconds: %s", n, got)
		}
	}
	for _, n := range []int{-1, 10_000_001, 10_000_019, 10_000_000*60 + 60, 10_000_000*3600 + 3600, 10_000_001 * api.Day, math.MaxInt, math.MinInt} {
		for i := range 5 {
			o := plainObject("a")
			*[]*int{&o.Interval, &o.Retry, &o.Timeout, &o.FirstDelay, &o.Renotify}[i] = n
			noText(t, conf.Conf{Objects: []conf.Object{o}})
		}
		noText(t, conf.Conf{Objects: []conf.Object{plainObject("a")}, Escs: []conf.Esc{{First: 1, Renotify: n}}})
	}
}

// rich is a table of all, which has a text.
func rich(t *testing.T) conf.Conf {
	return load(t,
		"timeperiod|id p|exclude q|entry_1 weekday 1 = 09:00-17:00", "timeperiod|id q|entry_1 day 1 1 = 09:00-17:00",
		"contact|id x|period q", "contact|id y", "contact|id z",
		"host|id a|contacts x,y|check_period p", "host|id b|parents a|contacts z", "host|id c|parents b,a", "service|id s|hosts a,c|contacts x,z|notify_period q",
		"dependency|on a|of b,c/s|execution o", "dependency|on b|of c", "escalation|of a,a/s|contacts y,z|first 2|last 3",
	)
}

// CF2: ErrArg with each index that is none.
func TestNoIndex(t *testing.T) {
	if _, err := conf.Text(rich(t)); err != nil {
		t.Fatal(err)
	}
	for i := range indices(&conf.Conf{}, rich(t)) {
		for _, none := range []int{-2, math.MinInt, math.MaxInt, 1 << 32, 1000} {
			c := rich(t)
			*indices(&c, c)[i] = none
			noText(t, c)
		}
		// Just beyond what there is: -1 of what is no period and no host, and as many as there are.
		c := rich(t)
		at := indices(&c, c)[i]
		isPeriod := slices.Contains(periodIndices(&c), at) || slices.Contains(hostIndices(&c), at)
		most := mostOf(&c, at)
		*at = most
		noText(t, c)
		if !isPeriod {
			*at = -1
			noText(t, c)
		}
	}
}

// periodIndices are all places of a table's objects and contacts where a period stands.
func periodIndices(c *conf.Conf) []*int {
	var all []*int
	for i := range c.Contacts {
		all = append(all, &c.Contacts[i].Period)
	}
	for i := range c.Objects {
		all = append(all, &c.Objects[i].CheckPeriod, &c.Objects[i].NotifyPeriod)
	}
	return all
}

// hostIndices are all places where a host stands, or -1.
func hostIndices(c *conf.Conf) []*int {
	var all []*int
	for i := range c.Objects {
		all = append(all, &c.Objects[i].Host)
	}
	return all
}

// indices are all places of a table where an index stands; of the second one, how many, if the first one is empty.
func indices(c *conf.Conf, of conf.Conf) []*int {
	if len(c.Objects) == 0 {
		c = &of
	}
	all := slices.Concat(periodIndices(c), hostIndices(c))
	for _, list := range lists(c) {
		for i := range *list {
			all = append(all, &(*list)[i])
		}
	}
	for i := range c.Deps {
		all = append(all, &c.Deps[i].On, &c.Deps[i].Of)
	}
	for i := range c.Escs {
		all = append(all, &c.Escs[i].Of)
	}
	return all
}

// mostOf is how many there are of what an index of a table is of.
func mostOf(c *conf.Conf, at *int) int {
	isIn := func(list []int) bool {
		for i := range list {
			if &list[i] == at {
				return true
			}
		}
		return false
	}
	if slices.Contains(periodIndices(c), at) || slices.ContainsFunc(c.Periods, func(p period.Period) bool { return isIn(p.Exclude) }) {
		return len(c.Periods)
	}
	if slices.ContainsFunc(c.Objects, func(o conf.Object) bool { return isIn(o.Contacts) }) || slices.ContainsFunc(c.Escs, func(e conf.Esc) bool { return isIn(e.Contacts) }) {
		return len(c.Contacts)
	}
	return len(c.Objects)
}

// CF2: ErrArg with tables that no text sets up.
func TestNoText(t *testing.T) {
	for what, spoil := range map[string]func(c *conf.Conf){
		"a period's name":           func(c *conf.Conf) { c.Names[1] = "a b" },
		"no period's name":          func(c *conf.Conf) { c.Names[1] = "" },
		"a period twice":            func(c *conf.Conf) { c.Names[1] = "p" },
		"a name more":               func(c *conf.Conf) { c.Names = append(c.Names, "r") },
		"a period more":             func(c *conf.Conf) { c.Periods = append(c.Periods, period.Period{}) },
		"no names":                  func(c *conf.Conf) { c.Names = nil },
		"no periods":                func(c *conf.Conf) { c.Periods = nil },
		"no rule":                   func(c *conf.Conf) { c.Periods[0].Entries[0].Rule.Weekday = 7 },
		"a rule with too much":      func(c *conf.Conf) { c.Periods[0].Entries[0].Rule.N = 1 },
		"no spans":                  func(c *conf.Conf) { c.Periods[0].Entries[0].Spans = nil },
		"a span that goes down":     func(c *conf.Conf) { c.Periods[0].Entries[0].Spans[0].To = 0 },
		"a span of nothing":         func(c *conf.Conf) { c.Periods[0].Entries[0].Spans[0].To = 9 * 3600 },
		"a span of seconds":         func(c *conf.Conf) { c.Periods[0].Entries[0].Spans[0].From++ },
		"a span to a second":        func(c *conf.Conf) { c.Periods[0].Entries[0].Spans[0].To-- },
		"a span too early":          func(c *conf.Conf) { c.Periods[0].Entries[0].Spans[0].From = -60 },
		"a span too late":           func(c *conf.Conf) { c.Periods[0].Entries[0].Spans[0].To = api.Day + 60 },
		"a span twice":              func(c *conf.Conf) { s := &c.Periods[0].Entries[0].Spans; *s = append(*s, (*s)[0]) },
		"ten entries":               func(c *conf.Conf) { p := &c.Periods[0]; p.Entries = slices.Repeat(p.Entries, 10) },
		"65 entries":                func(c *conf.Conf) { p := &c.Periods[0]; p.Entries = slices.Repeat(p.Entries, 65) },
		"a period excludes itself":  func(c *conf.Conf) { c.Periods[0].Exclude[0] = 0 },
		"a period excludes twice":   func(c *conf.Conf) { c.Periods[0].Exclude = []int{1, 1} },
		"a contact's name":          func(c *conf.Conf) { c.Contacts[0].Name = "x/x" },
		"no contact's name":         func(c *conf.Conf) { c.Contacts[0].Name = "" },
		"a contact twice":           func(c *conf.Conf) { c.Contacts[0].Name = "y" },
		"a contact's options":       func(c *conf.Conf) { c.Contacts[0].Options = 64 },
		"a contact's options below": func(c *conf.Conf) { c.Contacts[0].Options = -1 },
		"a host's name":             func(c *conf.Conf) { c.Objects[1].Name = "b/b" },
		"a host's name with more":   func(c *conf.Conf) { c.Objects[1].Name = "b\n  max 4" },
		"a host's name with a note": func(c *conf.Conf) { c.Objects[1].Name = "b;" },
		"no host's name":            func(c *conf.Conf) { c.Objects[1].Name = "" },
		"a null host":               func(c *conf.Conf) { c.Objects[1].Name = "null" },
		"a host twice":              func(c *conf.Conf) { c.Objects[1].Name = "c" },
		"a host that has services":  func(c *conf.Conf) { c.Objects[0].Name = "d" },
		"its own parent":            func(c *conf.Conf) { c.Objects[1].Parents[0] = 1 },
		"a parent twice":            func(c *conf.Conf) { c.Objects[2].Parents[0] = 0 },
		"a service for a parent":    func(c *conf.Conf) { c.Objects[1].Parents[0] = 3 },
		"parents of a service":      func(c *conf.Conf) { c.Objects[3].Parents = []int{1} },
		"a service's name":          func(c *conf.Conf) { c.Objects[3].Name = "s" },
		"a service's name alone":    func(c *conf.Conf) { c.Objects[3].Name = "a/" },
		"a service's host alone":    func(c *conf.Conf) { c.Objects[3].Name = "a" },
		"a service's name of two":   func(c *conf.Conf) { c.Objects[3].Name = "a/s/s" },
		"a service of another host": func(c *conf.Conf) { c.Objects[3].Name = "b/s" },
		"a service of another one":  func(c *conf.Conf) { c.Objects[3].Host = 1 },
		"a service of none":         func(c *conf.Conf) { c.Objects[3].Host = -1 },
		"a service of a service":    func(c *conf.Conf) { c.Objects[3].Host, c.Objects[3].Name = 4, "c/s/x" },
		"a service of itself":       func(c *conf.Conf) { c.Objects[3].Host, c.Objects[3].Name = 3, "a/s" },
		"a null service":            func(c *conf.Conf) { c.Objects[3].Name = "a/null" },
		"a service twice":           func(c *conf.Conf) { c.Objects[3].Name, c.Objects[3].Host = "c/s", 2 },
		"a host with a host":        func(c *conf.Conf) { c.Objects[2].Host = 0 },
		"a service ahead of a host": func(c *conf.Conf) { c.Objects[2], c.Objects[3] = c.Objects[3], c.Objects[2] },
		"contacts that go down":     func(c *conf.Conf) { c.Objects[0].Contacts = []int{1, 0} },
		"contacts of a service":     func(c *conf.Conf) { c.Objects[3].Contacts = []int{2, 0} },
		"a contact listed twice":    func(c *conf.Conf) { c.Objects[0].Contacts = []int{1, 1} },
		"no attempts":               func(c *conf.Conf) { c.Objects[0].Max = 0 },
		"too many attempts":         func(c *conf.Conf) { c.Objects[0].Max = 101 },
		"no interval":               func(c *conf.Conf) { c.Objects[0].Interval = 0 },
		"no retry":                  func(c *conf.Conf) { c.Objects[3].Retry = 0 },
		"an object's options":       func(c *conf.Conf) { c.Objects[0].Options = 64 },
		"an object's options below": func(c *conf.Conf) { c.Objects[0].Options = math.MinInt },
		"flapping below":            func(c *conf.Conf) { c.Objects[0].FlapLow = -1 },
		"flapping above":            func(c *conf.Conf) { c.Objects[0].FlapHigh = 101 },
		"flapping across":           func(c *conf.Conf) { c.Objects[0].FlapLow = 31 },
		"a dependency's states":     func(c *conf.Conf) { c.Deps[0].Execution = 16 },
		"a dependency's others":     func(c *conf.Conf) { c.Deps[0].Notification = -1 },
		"a dependency on itself":    func(c *conf.Conf) { c.Deps[0].Of = 0 },
		"dependencies in a ring":    func(c *conf.Conf) { c.Deps = append(c.Deps, conf.Dep{On: 2, Of: 0}) },
		"from none on":              func(c *conf.Conf) { c.Escs[0].First = 0 },
		"from too far on":           func(c *conf.Conf) { c.Escs[0].First, c.Escs[0].Last = 1001, 0 },
		"up to below 0":             func(c *conf.Conf) { c.Escs[0].Last = -1 },
		"up to too far":             func(c *conf.Conf) { c.Escs[0].Last = 1001 },
		"up to below the first":     func(c *conf.Conf) { c.Escs[0].Last = 1 },
		"an escalation's contacts":  func(c *conf.Conf) { c.Escs[1].Contacts = []int{2, 1} },
		"contacts told twice":       func(c *conf.Conf) { c.Escs[1].Contacts = []int{1, 1, 2} },
	} {
		c := rich(t)
		spoil(&c)
		if _, err := conf.Text(c); !holds(err, api.ErrArg) {
			t.Errorf("%s: %v", what, err)
		}
		noText(t, c)
	}
}

// CF2: tables that are a little else, but that a text sets up.
func TestOtherTexts(t *testing.T) {
	for what, change := range map[string]func(c *conf.Conf){
		"as it is":                 func(c *conf.Conf) {},
		"services the other way":   func(c *conf.Conf) { c.Objects[3], c.Objects[4] = c.Objects[4], c.Objects[3] },
		"parents the other way":    func(c *conf.Conf) { c.Objects[2].Parents = []int{0, 1} },
		"dependencies so":          func(c *conf.Conf) { slices.Reverse(c.Deps) },
		"escalations so":           func(c *conf.Conf) { slices.Reverse(c.Escs) },
		"nobody":                   func(c *conf.Conf) { c.Objects[0].Contacts = []int{} },
		"no periods":               func(c *conf.Conf) { c.Contacts[0].Period, c.Objects[0].CheckPeriod = -1, -1 },
		"nine entries":             func(c *conf.Conf) { p := &c.Periods[0]; p.Entries = slices.Repeat(p.Entries, 9) },
		"no entries":               func(c *conf.Conf) { c.Periods[0].Entries = nil },
		"one row twice":            func(c *conf.Conf) { c.Deps = append(c.Deps, c.Deps[0]) },
		"rows of one block, apart": func(c *conf.Conf) { c.Escs[1].First = 1 },
		"a name that says nothing": func(c *conf.Conf) { c.Contacts[0].Name, c.Names[0], c.Objects[1].Name = "n", "use", "name" },
	} {
		c := rich(t)
		change(&c)
		got, err := conf.Text(c)
		if err != nil {
			t.Errorf("%s: %v", what, err)
			continue
		}
		isSame(t, loadText(t, got), c)
	}
}

// CF3: no text where it would be too long, or a line of it, or where there would be too many blocks.
func TestTooLongTexts(t *testing.T) {
	var blocks []string
	for i := range 400 {
		blocks = append(blocks, "host|id "+short(i))
	}
	noText(t, load(t, blocks...))
	if _, err := conf.Text(load(t, blocks[:300]...)); err != nil {
		t.Errorf("300 hosts: %v", err)
	}
	// Just as long as a text may be, and a byte more.
	blocks = nil
	for i := range 320 {
		blocks = append(blocks, "host|id "+short(i))
	}
	c := load(t, blocks...)
	got, err := conf.Text(c)
	if err != nil {
		t.Fatal(err)
	}
	for i := 0; len(got) < api.MaxText; i++ {
		more := min(30, api.MaxText-len(got))
		c.Objects[i].Name += strings.Repeat("x", more)
		if got, err = conf.Text(c); err != nil {
			t.Fatal(i, more, err)
		}
	}
	isText(t, c, got)
	c.Objects[319].Name += "x"
	noText(t, c)
	// A line that is too long, which it isn't by the group's members.
	blocks = []string{"contactgroup|id g", "host|id a|contact_groups g"}
	for i := range 500 {
		blocks = append(blocks, "contact|groups g|id c"+strings.Repeat(short(i), 4))
	}
	c = load(t, blocks...)
	noText(t, c)
	c.Objects[0].Contacts = c.Objects[0].Contacts[:400]
	if _, err := conf.Text(c); err != nil {
		t.Errorf("400 contacts: %v", err)
	}
	// More blocks than a text may have.
	blocks = []string{"host|id a", "host|id b", "host|id c", "host|id d", "host|id e", "dependency|on a|of b,c,d,e", "escalation|of a,b,c,d,e"}
	for len(blocks) < api.MaxObjects {
		blocks = append(blocks, "contact|id "+short(len(blocks)))
	}
	noText(t, load(t, blocks...))
	if _, err := conf.Text(load(t, blocks[:api.MaxObjects-7]...)); err != nil {
		t.Errorf("%d blocks: %v", api.MaxObjects, err)
	}
	noText(t, load(t, blocks[:api.MaxObjects-6]...))
}

// CF2: tables that are larger than all that may be are soon refused, too.
func TestLargeTables(t *testing.T) {
	if got, err := conf.Text(conf.Conf{Contacts: make([]conf.Contact, 1<<20)}); got != "" || !holds(err, api.ErrArg) {
		t.Errorf("many contacts: %v", err)
	}
	noText(t, conf.Conf{Deps: make([]conf.Dep, 1<<20), Objects: []conf.Object{plainObject("a")}})
	long := strings.Repeat("x", 1<<20)
	c := conf.Conf{}
	for range 500 {
		o := plainObject(long)
		for i := range 500 {
			o.Parents = append(o.Parents, i)
		}
		c.Objects = append(c.Objects, o)
	}
	if got, err := conf.Text(c); got != "" || !holds(err, api.ErrArg) {
		t.Errorf("long names: %v", err)
	}
	o := plainObject("a")
	o.Contacts = make([]int, 1<<20)
	if got, err := conf.Text(conf.Conf{Objects: []conf.Object{o}, Contacts: []conf.Contact{{Name: "x"}}}); got != "" || !holds(err, api.ErrArg) {
		t.Errorf("long lists: %v", err)
	}
}

// CF3: no text where an id is null.
func TestNull(t *testing.T) {
	for _, blocks := range [][]string{
		{"timeperiod|id +null"}, {"contact|id +null"}, {"host|id +null"}, {"host|id a", "service|id +null|hosts a"}, {"host|id +null", "service|id a|hosts +null"},
	} {
		c := load(t, blocks...)
		if len(c.Names)+len(c.Contacts)+len(c.Objects) == 0 {
			t.Errorf("%q: nothing", blocks)
		}
		noText(t, c)
	}
	// An id of a group that is null does no harm: groups are not told.
	isText(t, load(t, "contactgroup|id +null", "hostgroup|id +null"), "")
}

// isFound asks for an object's place.
func isFound(t *testing.T, c conf.Conf, name string, want int, is bool) {
	t.Helper()
	if got, has := c.Find(name); got != want || has != is {
		t.Errorf("Find(%q) in %s: %d, %v, not %d, %v", name, objectNames(c), got, has, want, is)
	}
}

// CF2: Find.
func TestFind(t *testing.T) {
	c := rich(t)
	for i, o := range c.Objects {
		isFound(t, c, o.Name, i, true)
	}
	isFound(t, c, "a", 0, true)
	isFound(t, c, "c/s", 4, true)
	for _, name := range []string{"", "A", "d", "x", "p", "s", "a/", "/s", "b/s", "a/s/", "a ", " a", "aa", "\x00", longest} {
		isFound(t, c, name, 0, false)
	}
	isFound(t, conf.Conf{}, "", 0, false)
	isFound(t, conf.Conf{}, "a", 0, false)
	// Of tables that no text sets up the first one of a name is it, and an empty name is one.
	odd := conf.Conf{Objects: []conf.Object{{Name: "b"}, {Name: "a"}, {Name: ""}, {Name: "a"}, {Name: ""}}}
	isFound(t, odd, "a", 1, true)
	isFound(t, odd, "", 2, true)
}

// roundTrip asks for a text of what a text sets up, or for what there is instead; and for the same of that text.
func roundTrip(t *testing.T, s string) bool {
	t.Helper()
	c, _, err := conf.Load(s)
	if err != nil {
		return false
	}
	got, err := conf.Text(c)
	if err != nil {
		t.Errorf("no text of what %q sets up: %v", s, err)
		return false
	}
	back := loadText(t, got)
	isSame(t, back, c)
	again, err := conf.Text(back)
	if again != got || err != nil {
		t.Errorf("%q again: %q, %v", got, again, err)
	}
	isOrdered(t, got)
	return true
}

// isOrdered asks for a text's blocks in the order of their kinds, and their fields by name.
func isOrdered(t *testing.T, s string) {
	t.Helper()
	blocks, _, err := block.Parse(s)
	if err != nil {
		t.Fatal(err)
	}
	order := []string{"timeperiod", "contact", "host", "service", "dependency", "escalation"}
	at := 0
	for _, b := range blocks {
		place := slices.Index(order, b.Kind)
		if place < at {
			t.Errorf("a %s too late in %q", b.Kind, s)
		}
		at = place
		if !slices.IsSortedFunc(b.Fields, func(a, b block.Field) int { return strings.Compare(a.Name, b.Name) }) {
			t.Errorf("fields out of order in %q", s)
		}
	}
}

// CF3: over ordinary texts.
func TestRoundTrip(t *testing.T) {
	for _, blocks := range [][]string{
		nil, ground, {"host|id a"}, {"timeperiod|id a|entry_4 weekday 1 = 00:00-24:00"}, {"contact|id a"}, {"contactgroup|id a"},
		withGround("service|id z|host_groups null|hosts b,a", "dependency|on a|of b,c,a/s", "escalation|of b,a/z|contacts c,a"),
		withGround("host|id x|interval 200000m|retry 10000000d|renotify 9999999h", "escalation|of x|renotify 1234567m"),
	} {
		s, _ := lay(blocks...)
		if !roundTrip(t, s) {
			t.Errorf("%q is wrong", s)
		}
	}
}
