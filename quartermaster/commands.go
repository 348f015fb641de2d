package quartermaster

import (
	"strconv"
	"strings"

	"quartermaster/api"
	"quartermaster/maker"
	"quartermaster/parse"
	"quartermaster/shell"
	"quartermaster/vfs"
)

// say writes a line.
func (c *console) say(line string) {
	c.out.WriteString(line + "\n")
}

// end says that a command had no error, unless it had one.
func (c *console) end(err api.Errno) {
	if err != api.OK {
		panic(fault{err})
	}
	c.say("ok")
}

// lines writes bytes as lines behind a mark.
func (c *console) lines(mark string, b []byte) {
	if len(b) == 0 {
		return
	}
	for line := range strings.SplitSeq(strings.TrimSuffix(string(b), "\n"), "\n") {
		c.say(mark + line)
	}
}

// use returns the text, which is empty then.
func (c *console) use() []byte {
	text := c.text
	c.text = nil
	return text
}

func (c *console) renew(words []string) {
	c.f = vfs.New(value(words[0]), value(words[1]))
	c.end(api.OK)
}

func (c *console) refuel(words []string) {
	c.fuel = value(words[0])
	c.end(api.OK)
}

func (c *console) file(words []string) {
	c.end(c.f.Write(words[0], c.use(), false))
}

func (c *console) dir(words []string) {
	c.end(c.f.Mkdir(words[0]))
}

func (c *console) remove(words []string) {
	c.end(c.f.Remove(words[0]))
}

func (c *console) touch(words []string) {
	c.end(c.f.Touch(words[0]))
}

func (c *console) show(words []string) {
	b, err := c.f.Read(words[0])
	if err != api.OK {
		panic(fault{err})
	}
	c.lines("|", b)
}

func (c *console) tree([]string) {
	for _, e := range c.f.All() {
		kind := "dir"
		if !e.Dir {
			kind = "file " + strconv.Itoa(len(e.Data))
		}
		c.say(e.Path + " " + kind + " " + strconv.Itoa(e.Time))
	}
}

func (c *console) shell([]string) {
	r := shell.Run(c.f, "/", nil, []string{"sh"}, string(c.use()), nil, c.fuel)
	c.tell(r.Err, r.Status, r.Out, r.Log)
}

func (c *console) make(words []string) {
	r := maker.Run(c.f, "/", words, nil, c.fuel)
	c.tell(r.Err, r.Status, r.Out, r.Log)
}

// tell tells what a run came to.
func (c *console) tell(err api.Errno, status int, out, log []byte) {
	if err != api.OK {
		panic(fault{err})
	}
	c.lines("|", out)
	c.lines("!", log)
	c.say("status " + strconv.Itoa(status))
}

func (c *console) parse([]string) {
	_, err := parse.Script(string(c.use()))
	c.end(err)
}
