package conf_test

import (
	"fmt"
	"math/rand"
	"slices"
	"strings"
	"testing"

	"belvedere/api"
	"belvedere/block"
	"belvedere/clock"
	"belvedere/conf"
	"belvedere/inherit"
	"belvedere/period"
	"belvedere/rule"
	"belvedere/value"
)

// number is an error's number, 0 of none.
func number(err error) api.Errno {
	for n := api.ErrArg; n <= api.ErrNeed; n++ {
		if holds(err, n) {
			return n
		}
	}
	return 0
}

// plainField is the value of a block's field, and its line.
func plainField(b block.Block, name string) (string, int, bool) {
	for _, f := range b.Fields {
		if f.Name == name {
			return f.Value, f.At, true
		}
	}
	return "", 0, false
}

// plainList are the names that a block's field lists.
func plainList(b block.Block, name string) []string {
	v, _, has := plainField(b, name)
	if !has {
		return nil
	}
	var l []string
	for _, part := range strings.Split(v, ",") {
		l = append(l, strings.Trim(part, " \t"))
	}
	return l
}

// plainInt is what a block's field says as a number, else what holds otherwise.
func plainInt(b block.Block, name string, otherwise int) int {
	v, _, has := plainField(b, name)
	if !has {
		return otherwise
	}
	switch sortsOf(b.Kind)[name] {
	case "options":
		n, _ := value.Options(v, "wucrfs")
		return n
	case "states":
		n, _ := value.Options(v, "owcu")
		return n
	}
	n, _ := value.Seconds(v)
	return n
}

// plainEntry is an entry, and what is wrong with it.
func plainEntry(v string) (period.Entry, api.Errno) {
	i := strings.IndexByte(v, '=')
	if i < 0 {
		return period.Entry{}, api.ErrForm
	}
	ahead := v[:i]
	for ahead != "" && strings.Contains(" \t\r", ahead[len(ahead)-1:]) {
		ahead = ahead[:len(ahead)-1]
	}
	r, err := rule.Parse(ahead)
	if err != nil {
		return period.Entry{}, api.ErrForm
	}
	e := period.Entry{Rule: r}
	l, err := value.List(v[i+1:])
	if err != nil {
		return period.Entry{}, number(err)
	}
	for _, s := range l {
		if len(s) != 11 || s[5] != '-' {
			return period.Entry{}, api.ErrForm
		}
		from, err1 := clock.Parse(s[:5])
		to, err2 := clock.Parse(s[6:])
		if err1 != nil || err2 != nil {
			return period.Entry{}, api.ErrForm
		}
		if to <= from {
			return period.Entry{}, api.ErrArg
		}
		e.Spans = append(e.Spans, period.Span{From: from, To: to})
	}
	return e, 0
}

// plainValueFault is what is wrong with a value of a field that says something.
func plainValueFault(sort, v string) api.Errno {
	within := func(low, high int) api.Errno {
		_, err := value.Int(v, low, high)
		return number(err)
	}
	switch sort {
	case "id":
		if !block.Name(v) {
			return api.ErrName
		}
		return 0
	case "entry":
		_, wrong := plainEntry(v)
		return wrong
	case "flag":
		_, err := value.Flag(v)
		return number(err)
	case "options":
		_, err := value.Options(v, "wucrfs")
		return number(err)
	case "states":
		_, err := value.Options(v, "owcu")
		return number(err)
	case "attempts":
		return within(1, 100)
	case "percent":
		return within(0, 100)
	case "first":
		return within(1, 1000)
	case "last":
		return within(0, 1000)
	case "seconds", "some":
		n, err := value.Seconds(v)
		if err == nil && sort == "some" && n < 1 {
			return api.ErrRange
		}
		return number(err)
	}
	l, err := value.List(v)
	if err == nil && (sort == "period" || sort == "object") && len(l) != 1 {
		return api.ErrForm
	}
	return number(err)
}

// plainFirstLook is what is wrong with blocks one by one.
func plainFirstLook(l []block.Block) api.Place {
	for _, b := range l {
		sorts := sortsOf(b.Kind)
		if len(sorts) == 0 {
			return api.Place{Line: b.At, Err: api.ErrKind}
		}
		for _, f := range b.Fields {
			sort, has := sorts[f.Name]
			if !has {
				return api.Place{Line: f.At, Err: api.ErrKind}
			}
			if wrong := plainValueFault(sort, f.Value); wrong != 0 {
				return api.Place{Line: f.At, Err: wrong}
			}
		}
		for _, name := range []string{"id", "on", "of"} {
			if _, _, has := plainField(b, name); sorts[name] != "" && !has {
				return api.Place{Line: b.At, Err: api.ErrNeed}
			}
		}
		last := plainInt(b, "last", 0)
		if plainInt(b, "flap_low", 20) > plainInt(b, "flap_high", 30) || last != 0 && last < plainInt(b, "first", 1) {
			return api.Place{Line: b.At, Err: api.ErrRange}
		}
	}
	return api.Place{}
}

// plainIDs are the ids of a kind, in the order of the blocks.
func plainIDs(l []block.Block, kind string) []string {
	var ids []string
	for _, b := range l {
		if b.Kind == kind {
			id, _, _ := plainField(b, "id")
			ids = append(ids, id)
		}
	}
	return ids
}

// plainOf is the block of a kind with an id.
func plainOf(l []block.Block, kind, id string) block.Block {
	for _, b := range l {
		if v, _, _ := plainField(b, "id"); b.Kind == kind && v == id {
			return b
		}
	}
	return block.Block{}
}

// kindNamed is of what kind the names are that a field lists, if it is one.
var kindNamed = map[string]string{"period": "timeperiod", "periods": "timeperiod", "contacts": "contact", "contactgroups": "contactgroup", "hosts": "host", "hostgroups": "hostgroup"}

// plainNames is what is wrong with ids, and then with what names none.
func plainNames(l []block.Block) api.Place {
	for i, b := range l {
		id, at, has := plainField(b, "id")
		if has && b.Kind != "service" && slices.Contains(plainIDs(l[:i], b.Kind), id) {
			return api.Place{Line: at, Err: api.ErrTwice}
		}
	}
	for _, b := range l {
		for _, f := range b.Fields {
			kind, names := kindNamed[sortsOf(b.Kind)[f.Name]]
			for _, name := range plainList(b, f.Name) {
				if names && !slices.Contains(plainIDs(l, kind), name) {
					return api.Place{Line: f.At, Err: api.ErrNone}
				}
			}
		}
	}
	return api.Place{}
}

// comesBack tells whether ways lead from something back to it.
func comesBack(from string, next func(string) []string) bool { return comesTo(next(from), from, next) }

// comesTo tells whether something is among others, or ways lead from one of them to it.
func comesTo(from []string, to string, next func(string) []string) bool {
	seen := map[string]int{}
	for ahead := slices.Clone(from); len(ahead) > 0; ahead = ahead[1:] {
		if ahead[0] == to {
			return true
		}
		if seen[ahead[0]]++; seen[ahead[0]] == 1 {
			ahead = append(ahead, next(ahead[0])...)
		}
	}
	return false
}

// plainLoops is what is wrong with loops of ids.
func plainLoops(l []block.Block) api.Place {
	for _, of := range [][2]string{{"contactgroup", "groups"}, {"hostgroup", "groups"}, {"timeperiod", "exclude"}, {"host", "parents"}} {
		next := func(id string) []string { return plainList(plainOf(l, of[0], id), of[1]) }
		for _, b := range l {
			if id, _, _ := plainField(b, "id"); b.Kind == of[0] && comesBack(id, next) {
				return api.Place{Line: b.At, Err: api.ErrLoop}
			}
		}
	}
	return api.Place{}
}

// plainMember tells whether an item is a member of a group.
func plainMember(l []block.Block, groupKind, group, itemKind, item string) bool {
	b := plainOf(l, groupKind, group)
	if slices.Contains(plainList(b, "members"), item) || slices.Contains(plainList(plainOf(l, itemKind, item), "groups"), group) {
		return true
	}
	return slices.ContainsFunc(plainList(b, "groups"), func(other string) bool { return plainMember(l, groupKind, other, itemKind, item) })
}

// plainPlaces are the places of what a block's fields name, and of the members of the groups that it names.
func plainPlaces(l []block.Block, b block.Block, kind, list, groupKind, groups string) []int {
	var places []int
	for i, id := range plainIDs(l, kind) {
		isMember := func(group string) bool { return plainMember(l, groupKind, group, kind, id) }
		if slices.Contains(plainList(b, list), id) || slices.ContainsFunc(plainList(b, groups), isMember) {
			places = append(places, i)
		}
	}
	return places
}

// plainContacts are the contacts of a block.
func plainContacts(l []block.Block, b block.Block) []int {
	return plainPlaces(l, b, "contact", "contacts", "contactgroup", "contact_groups")
}

// plainServices are the hosts of all services, by block and host, as names; what is wrong.
func plainServices(l []block.Block) ([]string, api.Place) {
	hosts := plainIDs(l, "host")
	all := slices.Clone(hosts)
	for _, b := range l {
		if b.Kind != "service" {
			continue
		}
		id, _, _ := plainField(b, "id")
		places := plainPlaces(l, b, "host", "hosts", "hostgroup", "host_groups")
		if len(places) == 0 {
			return nil, api.Place{Line: b.At, Err: api.ErrNeed}
		}
		was := slices.Clone(all)
		for _, place := range places {
			if slices.Contains(was, hosts[place]+"/"+id) {
				return nil, api.Place{Line: b.At, Err: api.ErrTwice}
			}
			all = append(all, hosts[place]+"/"+id)
		}
		if len(all) > 1024 {
			return nil, api.Place{Line: b.At, Err: api.ErrFull}
		}
	}
	return all, api.Place{}
}

// plainDependencies is what is wrong with what names objects.
func plainDependencies(l []block.Block, objects []string) api.Place {
	for _, b := range l {
		for _, f := range b.Fields {
			if sort := sortsOf(b.Kind)[f.Name]; sort != "object" && sort != "objects" {
				continue
			}
			for _, name := range plainList(b, f.Name) {
				if !slices.Contains(objects, name) {
					return api.Place{Line: f.At, Err: api.ErrNone}
				}
			}
		}
	}
	next := func(object string) []string {
		var all []string
		for _, b := range l {
			if b.Kind == "dependency" && plainList(b, "on")[0] == object {
				all = append(all, plainList(b, "of")...)
			}
		}
		return all
	}
	for _, b := range l {
		if b.Kind == "dependency" && comesTo(plainList(b, "of"), plainList(b, "on")[0], next) {
			return api.Place{Line: b.At, Err: api.ErrLoop}
		}
	}
	return api.Place{}
}

// plainPeriod is the place of the period that a block's field names.
func plainPeriod(l []block.Block, b block.Block, name string) int {
	list := plainList(b, name)
	if len(list) == 0 {
		return -1
	}
	return slices.Index(plainIDs(l, "timeperiod"), list[0])
}

// plainIndices are the places of the names that a block's field lists, among some.
func plainIndices(b block.Block, name string, ids []string) []int {
	var places []int
	for _, one := range plainList(b, name) {
		places = append(places, slices.Index(ids, one))
	}
	return places
}

// plainObjectOf is an object of a block.
func plainObjectOf(l []block.Block, b block.Block, name string, host int) conf.Object {
	flag := func(name string) bool { return plainInt(b, name, 1) == 1 }
	o := conf.Object{
		Name: name, Host: host, CheckPeriod: plainPeriod(l, b, "check_period"), NotifyPeriod: plainPeriod(l, b, "notify_period"), Contacts: plainContacts(l, b),
		Max: plainInt(b, "max", 3), Interval: plainInt(b, "interval", 300), Retry: plainInt(b, "retry", 60), Timeout: plainInt(b, "timeout", 30),
		FirstDelay: plainInt(b, "first_delay", 0), Renotify: plainInt(b, "renotify", 3600), Options: plainInt(b, "options", 63),
		FlapLow: plainInt(b, "flap_low", 20), FlapHigh: plainInt(b, "flap_high", 30), Active: flag("active"), Notify: flag("notify"), Flap: flag("flap"),
	}
	if b.Kind == "host" {
		o.Parents = plainIndices(b, "parents", plainIDs(l, "host"))
	}
	return o
}

// plainTables are the tables of blocks that are right.
func plainTables(l []block.Block, objects []string) conf.Conf {
	c := conf.Conf{Names: plainIDs(l, "timeperiod")}
	hosts := plainIDs(l, "host")
	for _, id := range c.Names {
		b := plainOf(l, "timeperiod", id)
		p := period.Period{Exclude: plainIndices(b, "exclude", c.Names)}
		for n := 1; n <= 9; n++ {
			if v, _, has := plainField(b, fmt.Sprint("entry_", n)); has {
				e, _ := plainEntry(v)
				p.Entries = append(p.Entries, e)
			}
		}
		c.Periods = append(c.Periods, p)
	}
	for _, id := range plainIDs(l, "contact") {
		b := plainOf(l, "contact", id)
		c.Contacts = append(c.Contacts, conf.Contact{Name: id, Period: plainPeriod(l, b, "period"), Options: plainInt(b, "options", 63), Enabled: plainInt(b, "enabled", 1) == 1})
	}
	for _, id := range hosts {
		c.Objects = append(c.Objects, plainObjectOf(l, plainOf(l, "host", id), id, -1))
	}
	for _, b := range l {
		switch b.Kind {
		case "service":
			id, _, _ := plainField(b, "id")
			for _, place := range plainPlaces(l, b, "host", "hosts", "hostgroup", "host_groups") {
				c.Objects = append(c.Objects, plainObjectOf(l, b, hosts[place]+"/"+id, place))
			}
		case "dependency":
			for _, place := range plainIndices(b, "of", objects) {
				c.Deps = append(c.Deps, conf.Dep{On: plainIndices(b, "on", objects)[0], Of: place, Execution: plainInt(b, "execution", 0), Notification: plainInt(b, "notification", 0)})
			}
		case "escalation":
			for _, place := range plainIndices(b, "of", objects) {
				c.Escs = append(c.Escs, conf.Esc{Of: place, First: plainInt(b, "first", 1), Last: plainInt(b, "last", 0), Contacts: plainContacts(l, b), Renotify: plainInt(b, "renotify", 3600)})
			}
		}
	}
	return c
}

// plainLoad is Load by the words alone.
func plainLoad(s string) (conf.Conf, api.Place) {
	blocks, place, err := block.Parse(s)
	if err != nil {
		return conf.Conf{}, place
	}
	l, place, err := inherit.Resolve(blocks)
	if err != nil {
		return conf.Conf{}, place
	}
	for _, look := range []func([]block.Block) api.Place{plainFirstLook, plainNames, plainLoops} {
		if place := look(l); place.Err != 0 {
			return conf.Conf{}, place
		}
	}
	objects, place := plainServices(l)
	if place.Err == 0 {
		place = plainDependencies(l, objects)
	}
	if place.Err != 0 {
		return conf.Conf{}, place
	}
	c := plainTables(l, objects)
	if err := period.Check(c.Periods); err != nil {
		return conf.Conf{}, api.Place{Err: number(err)}
	}
	return c, api.Place{}
}

// isPlain holds Load against the words alone; what is wrong with the text.
func isPlain(t *testing.T, s string) api.Errno {
	t.Helper()
	want, wrong := plainLoad(s)
	got, place, err := conf.Load(s)
	if tell(got) != tell(want) || place != wrong || !holds(err, wrong.Err) {
		t.Fatalf("Load(%s): %s, %v, %v, not %s, %v", s, tell(got), place, err, tell(want), wrong)
	}
	return wrong.Err
}

// maker makes texts by chance.
type maker struct {
	r *rand.Rand
	// odd is how many of a thousand things are odd.
	odd int
	// ids are those that there are, by kind; objects are hosts, and what services may be.
	ids   map[string][]string
	lines []string
}

// pick is one of some.
func (m *maker) pick(l []string) string {
	if len(l) == 0 {
		return "none"
	}
	return l[m.r.Intn(len(l))]
}

// isOdd tells whether something odd is to come.
func (m *maker) isOdd() bool { return m.r.Intn(1000) < m.odd }

// list are a few of some, each once.
func (m *maker) list(l []string) string {
	if len(l) == 0 {
		return ""
	}
	l = slices.Clone(l)
	m.r.Shuffle(len(l), func(i, j int) { l[i], l[j] = l[j], l[i] })
	l = l[:1+m.r.Intn(min(3, len(l)))]
	if m.isOdd() {
		l = append(l, m.pick([]string{"none", "", l[0], "x/y", "null"}))
	}
	return strings.Join(l, m.pick([]string{",", ",", ", ", " ,\t"}))
}

// entry is an entry.
func (m *maker) entry() string {
	rules := []string{"weekday 1", "weekday 6", "day 0 1", "day 12 -31", "nth 5 -1 1", "dates 2020-2-29 2021-1-1"}
	var spans []string
	for range 1 + m.r.Intn(3) {
		from := m.r.Intn(1440)
		to := from + 1 + m.r.Intn(1440-from)
		if m.isOdd() {
			from, to = to, from
		}
		spans = append(spans, fmt.Sprintf("%02d:%02d-%02d:%02d", from/60, from%60, to/60, to%60))
	}
	slices.Sort(spans)
	e := m.pick(rules) + m.pick([]string{"=", " = ", "\t ="}) + strings.Join(slices.Compact(spans), ",")
	if m.isOdd() {
		return m.pick([]string{"x = 09:00-10:00", "weekday 1", strings.Replace(e, ":", ".", 1), e + ",", "weekday 1=24:00-25:00"})
	}
	return e
}

// value is a value of a field that says something of a sort; empty, if there is nothing that it could name.
func (m *maker) value(sort string) string {
	if kind, names := kindNamed[sort]; names && sort != "period" {
		return m.list(m.ids[kind])
	}
	switch sort {
	case "period":
		return m.pick(m.ids["timeperiod"])
	case "object":
		return m.pick(m.ids["object"])
	case "objects":
		return m.list(m.ids["object"])
	case "entry":
		return m.entry()
	case "flag":
		return m.pick([]string{"0", "1"})
	case "options":
		return m.list([]string{"w", "u", "c", "r", "f", "s"})
	case "states":
		return m.pick([]string{"n", "o", "w,u", "c, u", "o,w,c,u"})
	case "attempts":
		return m.pick([]string{"1", "2", "100"})
	case "percent":
		return m.pick([]string{"20", "30", "25"})
	case "first":
		return m.pick([]string{"1", "2", "3"})
	case "last":
		return m.pick([]string{"0", "3", "1000"})
	default:
		return m.pick([]string{"1", "60s", "5m", "200000m", "24h", "3d", "10000000d"})
	}
}

// block makes a block; each field that it may have is there, or not.
func (m *maker) block(kind, id string) {
	m.lines = append(m.lines, "define "+kind+" {")
	sorts := sortsOf(kind)
	names := namesOf(kind)
	m.r.Shuffle(len(names), func(i, j int) { names[i], names[j] = names[j], names[i] })
	for _, name := range names {
		sort := sorts[name]
		isNeeded := slices.Contains([]string{"id", "on", "of", "hosts"}, name) && name+kind != "hostshost"
		if isNeeded && m.isOdd() || !isNeeded && m.r.Intn(4) > 0 {
			continue
		}
		v := m.value(sort)
		if sort == "id" {
			v = id
		}
		// What leads on from one to the next of its kind leads to a later one most often: so there are few loops.
		if later, is := m.later(kind, name, id); is && !m.isOdd() {
			v = m.list(later)
		}
		if v == "" || v == "none" {
			continue
		}
		if m.isOdd() {
			v = m.pick([]string{"", "none", "null", "-1", "0", "0", "101", "101", "1001", "n", "a,b", "a b", "+" + v, v + ",", "x"})
		}
		if m.isOdd() {
			name = m.pick([]string{"name", "use", "register", "foo", "members", "period", "parents", "on", "entry_10"})
		}
		m.lines = append(m.lines, strings.TrimRight("  "+name+" "+v, " "))
	}
	m.lines = append(m.lines, "}")
}

// later are those of a kind behind one with an id, where a field of it leads to others of its kind.
func (m *maker) later(kind, name, id string) ([]string, bool) {
	switch kind + " " + name {
	case "contactgroup groups", "hostgroup groups", "timeperiod exclude", "host parents":
		at := slices.Index(m.ids[kind], id)
		return m.ids[kind][at+1:], true
	}
	return nil, false
}

// makeText makes a text, of which so many of a thousand things are odd.
func makeText(r *rand.Rand, odd int) string {
	m := &maker{r: r, odd: odd, ids: map[string][]string{}}
	type one struct{ kind, id string }
	var all []one
	for _, kind := range []string{"timeperiod", "contact", "contactgroup", "hostgroup", "host"} {
		for i := range r.Intn(5) {
			id := string("abcde"[i])
			m.ids[kind] = append(m.ids[kind], id)
			all = append(all, one{kind, id})
		}
	}
	m.ids["object"] = slices.Clone(m.ids["host"])
	for i := range r.Intn(3) {
		all = append(all, one{"service", string("stu"[i])})
	}
	for range r.Intn(4) {
		all = append(all, one{m.pick([]string{"dependency", "escalation"}), ""})
	}
	for m.isOdd() {
		all = append(all, one{m.pick([]string{"host", "contact", "service", "none", "timeperiod", "hostgroup"}), m.pick([]string{"a", "b", "s", "null"})})
		m.ids[all[len(all)-1].kind] = append(m.ids[all[len(all)-1].kind], all[len(all)-1].id)
	}
	if r.Intn(2) == 0 {
		r.Shuffle(len(all), func(i, j int) { all[i], all[j] = all[j], all[i] })
	}
	if len(m.ids["host"]) > 0 && r.Intn(2) == 0 {
		m.ids["object"] = append(m.ids["object"], "a/s", "b/s", "a/t")
	}
	for _, b := range all {
		m.block(b.kind, b.id)
	}
	return strings.Join(append(m.lines, ""), "\n")
}

// CF1: texts by chance, held against the words alone; all errors come about.
func TestRandomIsPlain(t *testing.T) {
	r := rand.New(rand.NewSource(14))
	met := map[api.Errno]int{}
	for _, odd := range []int{0, 2, 5, 20} {
		for range 3000 {
			met[isPlain(t, makeText(r, odd))]++
		}
	}
	for _, wrong := range []api.Errno{0, api.ErrKind, api.ErrNeed, api.ErrNone, api.ErrTwice, api.ErrLoop, api.ErrRange, api.ErrForm, api.ErrArg, api.ErrName} {
		if met[wrong] < 20 {
			t.Errorf("error %d comes about %d times: %v", int(wrong), met[wrong], met)
		}
	}
}

// CF3: texts by chance that are right.
func TestRandomRoundTrip(t *testing.T) {
	r := rand.New(rand.NewSource(3))
	met := 0
	for range 5000 {
		if roundTrip(t, makeText(r, 0)) {
			met++
		}
		if t.Failed() {
			return
		}
	}
	if met < 1500 {
		t.Errorf("only %d texts are right", met)
	}
}

// CF2: tables by chance, spoiled at one place: there is a text just where it is loaded as they are.
func TestRandomTables(t *testing.T) {
	r := rand.New(rand.NewSource(5))
	texts, refused := 0, 0
	for range 6000 {
		c, _, err := conf.Load(makeText(r, 0))
		if err != nil || len(c.Objects) == 0 {
			continue
		}
		spoilOne(r, &c)
		was := tell(c)
		got, err := conf.Text(c)
		switch {
		case tell(c) != was:
			t.Fatalf("Text changes %s", was)
		case err == nil:
			texts++
			isSame(t, loadText(t, got), c)
		case got != "" || !holds(err, api.ErrArg):
			t.Fatalf("Text(%s): %q, %v", was, got, err)
		default:
			refused++
		}
		if t.Failed() {
			return
		}
	}
	if texts < 500 || refused < 500 {
		t.Errorf("%d texts, %d refused", texts, refused)
	}
}

// spoilOne changes one number of tables.
func spoilOne(r *rand.Rand, c *conf.Conf) {
	o := &c.Objects[r.Intn(len(c.Objects))]
	all := append(indices(c, *c), &o.Max, &o.Interval, &o.Retry, &o.Timeout, &o.FirstDelay, &o.Renotify, &o.Options, &o.FlapLow, &o.FlapHigh)
	for i := range c.Deps {
		all = append(all, &c.Deps[i].Execution, &c.Deps[i].Notification)
	}
	for i := range c.Escs {
		all = append(all, &c.Escs[i].First, &c.Escs[i].Last, &c.Escs[i].Renotify)
	}
	at := all[r.Intn(len(all))]
	*at = []int{-2, -1, 0, 1, 2, 3, 16, 64, 100, 101, 1001, 10_000_001}[r.Intn(12)]
}

// Rules 1 and 4: any text has an answer, and each time the same.
func TestAnyText(t *testing.T) {
	r := rand.New(rand.NewSource(9))
	for range 4000 {
		s := []byte(makeText(r, 10))
		for range 1 + r.Intn(4) {
			if len(s) > 0 {
				at := r.Intn(len(s))
				switch r.Intn(3) {
				case 0:
					s[at] = "{}\n ;\\#,=+-/x0\x00\xff"[r.Intn(16)]
				case 1:
					s = slices.Delete(s, at, at+1)
				default:
					s = slices.Insert(s, at, "\n ,="[r.Intn(4)])
				}
			}
		}
		isPlain(t, string(s))
		c, place, err := conf.Load(string(s))
		d, again, err2 := conf.Load(string(s))
		if tell(c) != tell(d) || place != again || number(err) != number(err2) {
			t.Fatalf("Load(%q): %s, %v, and %s, %v", s, tell(c), place, tell(d), again)
		}
	}
}
