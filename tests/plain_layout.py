"""Part 7, word by word, and drawn books: the layouts of these are compared with it."""

from stillroom.filling import curve
from stillroom.flow import break_lines
from stillroom.fonts import outline, plain_font, read_font, write_font
from stillroom.pictures import read_picture, write_picture
from stillroom.runes import runes
from stillroom.streams import read_stream
from stillroom.styles import style_of

FAR = 1048576


class Ended(Exception):
    pass


def nearest(number, low, high):
    return max(low, min(high, number))


class Plain:
    def __init__(self, book, left):
        self.book, self.left = book, left
        self.objects = dict(book[0])
        self.root = self.look(("ref", book[1])) if book[1] else ("none",)
        self.fonts = {}

    def spend(self, cost):
        if cost > self.left:
            raise Ended
        self.left -= cost

    def read(self, found, left):
        self.left = left
        if left == 0:
            raise Ended
        return found

    def look(self, value):
        for _ in range(64):
            if value is not None and value[0] == "ref":
                value = self.objects.get(value[1])
        return ("none",) if value is None or value[0] == "ref" else value

    def key(self, value, word):
        name = tuple(word.encode()) if isinstance(word, str) else word
        if value[0] in ("dict", "stream"):
            for key, part in value[1]:
                if key == name:
                    return self.look(part)
        return ("none",)

    def number(self, value, word, low, high, other):
        found = self.key(value, word)
        return nearest(found[1], low, high) if found[0] == "int" else other

    def colour(self, value, word, other):
        found = self.key(value, word)
        return found[1] if found[0] == "int" and 0 <= found[1] <= 16777215 else other

    def data(self, value, word, kind):
        found = self.key(value, word)
        return found[1] if found[0] == kind else ()

    def items(self, value):
        if value[0] != "list":
            return []
        self.spend(len(value[1]))
        return [self.look(item) for item in value[1]]

    def act(self, kind, value):
        data = value[1] if value[0] in ("text", "name") else ()
        if value[0] == "dict":
            data = self.data(value, "Do", "text")
        self.acts.append((kind, data))

    def pages(self):
        found = []
        try:
            dicts = [value for value in self.items(self.key(self.root, "Pages")) if value[0] == "dict"]
            for at, page in enumerate(dicts[:32]):
                found.append(self.page(page, at == 0))
        except Ended:
            self.left = 0
        return found, self.left

    def page(self, page, is_first):
        self.spend(1)
        self.acts, self.marks = [], []
        width, height = [self.number(page, word, 1, 64, 32) for word in ("Width", "Height")]
        self.box = (0, 0, 4 * width, 4 * height)
        holders = [self.root, page] if is_first else [page]
        for holder in holders:
            if self.key(holder, "Open") != ("none",):
                self.act("open", self.key(holder, "Open"))
            if is_first and len(self.acts) < 2 and holder is self.root:
                for item in self.items(self.key(self.root, "Files")):
                    self.act("file", item)
        self.column(self.items(self.key(page, "Body")), 0, 4 * width, 0, 1)
        return width, height, self.colour(page, "Back", 16777215), tuple(self.marks), tuple(self.acts)

    def plate(self, colour, x0, y0, x1, y1, at=None):
        mark = ("fill", self.box, (((x0, y0), (x1, y0), (x1, y1), (x0, y1)),), colour)
        self.marks.insert(len(self.marks) if at is None else at, mark)

    def column(self, values, x0, x1, y, level):
        for block in values:
            if block[0] != "dict":
                continue
            self.spend(1)
            if level > 8:
                continue
            y = min(y, FAR)
            kind = bytes(self.data(block, "Kind", "name")).decode("latin-1")
            if kind in ("Text", "Field"):
                y = self.text(block, kind, x0, x1, y)
            elif kind == "Box":
                y = self.boxed(block, x0, x1, y, level)
            elif kind == "Table":
                y = self.table(block, x0, x1, y, level)
            elif kind == "Picture":
                y = self.picture(block, x0, x1, y)
            elif kind == "Sealed":
                high = 4 * self.number(block, "Height", 1, 64, 2)
                self.plate(8421504, x0, y, x0 + 4 * self.number(block, "Width", 1, 64, 8), y + high)
                y += high
            elif kind == "Drawing":
                y = self.drawing(block, x0, y)
            elif kind == "Script":
                self.acts.append(("script", self.data(block, "Text", "text")))
            elif kind == "Fetch":
                self.acts.append(("fetch", self.data(block, "From", "text")))
        return y

    def style(self, block):
        return style_of(self.book, self.data(block, "Style", "name"))

    def font(self, name):
        if not name:
            return plain_font()
        if name not in self.fonts:
            data = self.read(*read_stream(self.book, self.key(self.key(self.root, "Fonts"), name), self.left))
            font = None if data is None else self.read(*read_font(data, self.left))
            self.fonts[name] = font or plain_font()
        return self.fonts[name]

    def text(self, block, kind, x0, x1, y):
        if kind == "Field":
            self.acts.append(("form", self.data(block, "Send", "text")))
        name, size, color, back, align, indent, gap = self.style(block)
        glyphs, ranges = self.font(name)

        def glyph_of(rune):
            for first, last, glyph in ranges:
                if first <= rune <= last:
                    return glyph + rune - first if glyph + rune - first < len(glyphs) else 0
            return 0

        runs = [(self.data(block, "Value" if kind == "Field" else "Text", "text"), color)]
        if kind == "Text" and self.key(block, "Runs")[0] == "list":
            runs = []
            for item in self.items(self.key(block, "Runs")):
                if item[0] == "text":
                    runs.append((item[1], color))
                if item[0] == "dict":
                    runs.append((self.data(item, "Text", "text"), self.colour(item, "Color", color)))
                    if self.key(item, "Link")[0] == "text":
                        self.acts.append(("link", self.key(item, "Link")[1]))
        letters = []
        for data, shade in runs:
            self.spend(1)
            for rune in runes(list(data)):
                self.spend(1)
                letters.append((rune, shade))
        words, word = [], []
        for letter in letters + [(32, 0)]:
            if letter[0] != 32:
                word.append(letter)
            elif word:
                words.append(word)
                word = []
        wide = {rune: max(0, glyphs[glyph_of(rune)][0] * size // 4) for rune in [32] + [rune for rune, _ in letters]}
        room = max(1, x1 - x0 - 4 * indent)
        lines = break_lines([[wide[rune] for rune, _ in word] for word in words], wide[32], room)
        if back != -1 and lines:
            self.plate(back, x0, y, x1, y + 6 * size * len(lines))
        for places, end in lines:
            shift = {"Left": 0, "Right": max(0, room - end), "Middle": max(0, room - end) // 2}[align]
            for at, inside, place in places:
                rune, shade = words[at][inside]
                shapes = self.read(*outline((glyphs, ranges), glyph_of(rune), self.left))
                x = x0 + 4 * indent + place + shift
                shapes = tuple(tuple((x + a * size // 4, y + b * size // 4) for a, b in shape) for shape in shapes)
                if shapes:
                    self.marks.append(("fill", self.box, shapes, shade))
            y += 6 * size
        return y + gap

    def boxed(self, block, x0, x1, y, level):
        pad, at = 4 * self.number(block, "Pad", 0, 16, 0), len(self.marks)
        inner = self.items(self.key(block, "Blocks"))
        end = pad + self.column(inner, x0 + pad, max(x1 - pad, x0 + pad + 4), y + pad, level + 1)
        if self.colour(block, "Back", -1) != -1:
            self.plate(self.colour(block, "Back", -1), x0, y, x1, end, at)
        return end

    def table(self, block, x0, x1, y, level):
        widths = self.items(self.key(block, "Columns"))[:16]
        ends = [x0]
        for width in widths:
            ends.append(ends[-1] + 4 * (nearest(width[1], 1, 64) if width[0] == "int" else 4))
        if not widths:
            ends = [x0, x1]
        for row in self.items(self.key(block, "Rows")):
            if row[0] != "list":
                continue
            self.spend(1)
            y, free, bottom, plates = min(y, FAR), 0, 4, []
            for cell in self.items(row):
                self.spend(1)
                if free >= len(ends) - 1:
                    continue
                last = min(free + self.number(cell, "Span", 1, 16, 1), len(ends) - 1)
                plates.append((len(self.marks), self.colour(cell, "Back", -1), ends[free], ends[last]))
                if cell[0] == "dict":
                    inner = self.items(self.key(cell, "Blocks"))
                    bottom = max(bottom, self.column(inner, ends[free], ends[last], y, level + 1) - y)
                free = last
            for at, back, begin, end in reversed(plates):
                if back != -1:
                    self.plate(back, begin, y, end, y + bottom, at)
            y += bottom
        return y

    def picture(self, block, x0, x1, y):
        if self.key(block, "From")[0] == "text":
            self.acts.append(("fetch", self.key(block, "From")[1]))
        data = self.read(*read_stream(self.book, self.key(block, "Data"), self.left))
        grid = None if data is None else self.read(*read_picture(data, self.left))
        if grid is None:
            return y
        width, height = [4 * self.number(block, word, 1, 64, side) for word, side in zip(("Width", "Height"), grid)]
        align = self.style(block)[4]
        x = x0 + {"Left": 0, "Right": max(0, x1 - x0 - width), "Middle": max(0, x1 - x0 - width) // 2}[align]
        self.marks.append(("image", self.box, grid, (x, y, x + width, y + height)))
        return y + height

    def drawing(self, block, x0, y):
        width, height = [4 * self.number(block, word, 1, 64, 8) for word in ("Width", "Height")]
        right, bottom = self.box[2:]
        clip = (min(x0, right), min(y, bottom), min(x0 + width, right), min(y + height, bottom))
        for part in self.items(self.key(block, "Parts")):
            for shapes, colour in self.shape(part, 1, ()):
                moved = tuple(tuple((x0 + a, y + b) for a, b in shape) for shape in shapes)
                self.marks.append(("fill", clip, moved, colour))
        return y + height

    def shape(self, value, level, names):
        """The outlines of a shape and of those within it, with their colours, in its own place."""
        if value[0] != "dict":
            return []
        self.spend(1)
        if level > 8:
            return []
        dx, dy = [self.number(value, word, -FAR, FAR, 0) for word in ("Dx", "Dy")]
        scale = self.number(value, "Scale", 1, 64, 4)
        found = []
        outlines = self.path(self.items(self.key(value, "Path")))
        if outlines:
            found.append((outlines, self.colour(value, "Color", 0)))
        use = self.data(value, "Use", "name")
        if use != () and use not in names:
            found += self.shape(self.key(self.key(self.root, "Shapes"), use), level + 1, names + (use,))
        for part in self.items(self.key(value, "Parts")):
            found += self.shape(part, level + 1, names)
        return [([[(a * scale // 4 + dx, b * scale // 4 + dy) for a, b in shape] for shape in shapes], colour)
                for shapes, colour in found]

    def path(self, values):
        outlines = []
        while values:
            word, values = values[0], values[1:]
            count = {("name", (77,)): 2, ("name", (76,)): 2, ("name", (81,)): 4}.get(word, 0)
            if count == 0 or (word[1] != (77,) and not outlines):
                continue
            if len(values) < count or any(value[0] != "int" for value in values[:count]):
                break
            numbers, values = [nearest(value[1], -FAR, FAR) for value in values[:count]], values[count:]
            points = [tuple(numbers)]
            if word[1] == (77,):
                outlines.append([])
            if word[1] == (81,):
                points = curve(outlines[-1][-1], tuple(numbers[:2]), tuple(numbers[2:]))
            for point in points:
                self.spend(1)
                outlines[-1].append(point)
        return outlines


def plain_lay_out(book, left):
    return Plain(book, left).pages()


KEYS = """Pages Width Height Back Body Open Files Do Kind Style Runs Text Color Link Send Value Blocks Pad Columns
Rows Span From Data Parts Dx Dy Scale Path Use Shapes Styles Fonts Parent Font Size Align Indent Gap Filter
A B""".split()
NAMES = "Text Field Box Table Picture Sealed Script Fetch Drawing M L Q A B Left Middle Right Hex Runs".split()
STREAMS = (
    b"", b"abc", bytes(write_picture((2, 2, [1, 2, 3, -1]))),
    bytes(write_font((
        ((5, (("move", 1, 1), ("line", 2, 5))), (4, ()), (-3, (("move", 0, 0),))), ((97, 99, 0), (32, 32, 1)),
    ))),
)


def keyed(**pairs):
    return tuple((tuple(key.encode()), value) for key, value in pairs.items())


class Drawer:
    """Draws books whose values are often, but not always, what they should be."""

    last = 14

    def __init__(self, source):
        self.source = source

    def value(self, room):
        source = self.source
        kinds = "none bool int int int name name text ref ref list dict stream path".split()
        kind = source.choice(kinds[:14 if room else 9])
        if kind == "none":
            return ("none",)
        if kind == "bool":
            return "bool", source.randint(0, 1)
        if kind == "int":
            numbers = (0, 1, 2, 3, 5, 64, 65, -1, 16, FAR + 1, -2000000, 16777215, source.randint(0, 99))
            return "int", source.choice(numbers)
        if kind == "name":
            return "name", tuple(source.choice(NAMES).encode())
        if kind == "text":
            return "text", tuple(source.choice((b"", b"ab c", b"! !! !!!!!", b"\xff\xc3\xa4 x")))
        if kind == "ref":
            return "ref", source.randint(1, self.last)
        if kind == "list":
            return "list", tuple(self.value(room - 1) for _ in range(source.randint(0, 5)))
        if kind == "path":
            return self.path()
        pairs = keyed(**{key: self.value(room - 1) for key in source.sample(KEYS, source.randint(0, 6))})
        return (kind, pairs) if kind == "dict" else (kind, pairs, tuple(source.choice(STREAMS)))

    def path(self):
        items = []
        for _ in range(self.source.randint(0, 6)):
            items.append(("name", tuple(self.source.choice((b"M", b"M", b"L", b"Q", b"X")))))
            for _ in range(self.source.choice((2, 2, 2, 4, 1, 5))):
                items.append(self.source.choice([("int", self.source.randint(-50, 80))] * 9 + [("ref", 3)]))
        return "list", tuple(items)

    def some(self, draw, most, room):
        """A list of what is drawn, with other values among them."""
        count = self.source.randint(0, most)
        return "list", tuple(draw(room) if self.source.random() < 0.85 else self.value(1) for _ in range(count))

    def block(self, room):
        pairs = {key: self.value(1) for key in self.source.sample(KEYS, 5)}
        pairs["Kind"] = "name", tuple(self.source.choice(NAMES[:9]).encode())
        pairs["Style"] = "name", (self.source.choice(b"AB"),)
        pairs["Text"] = "text", tuple(self.source.choice((b"!! a b ", b"abc cba a")))
        reference = ("ref", self.source.randint(1, self.last))
        pairs["Data"] = self.source.choice((reference, ("stream", (), tuple(STREAMS[2]))))
        if self.source.random() < 0.3:
            pairs["Runs"] = self.some(self.run, 3, 0)
        if room > 0:
            pairs["Blocks"] = self.some(self.block, 3, room - 1)
            pairs["Rows"] = self.some(lambda inner: self.some(self.block, 3, inner), 2, room - 1)
            pairs["Parts"] = self.some(self.shape, 3, room - 1)
        return "dict", keyed(**pairs)

    def run(self, _):
        return "dict", keyed(Text=("text", tuple(b"a !b")), Link=self.value(0), Color=self.value(0))

    def shape(self, room):
        pairs = {key: self.value(0) for key in self.source.sample(("Dx", "Dy", "Scale", "Color"), 2)}
        pairs["Path"], pairs["Use"] = self.path(), ("name", (self.source.choice(b"ABC"),))
        if room > 0:
            pairs["Parts"] = self.some(self.shape, 2, room - 1)
        return "dict", keyed(**pairs)

    def page(self, _):
        width = ("int", self.source.randint(1, 20))
        return "dict", keyed(Body=self.some(self.block, 3, 2), Width=width, Open=self.value(0), Back=self.value(0))

    def book(self):
        style = "Parent Font Size Color Back Align Indent Gap".split()
        styles, fonts = {}, {}
        for word in ("A", "B", "Text"):
            styles[word] = ("dict", keyed(**{key: self.value(0) for key in self.source.sample(style, 4)}))
            fonts[word] = self.source.choice((self.value(1), ("stream", (), tuple(STREAMS[3]))))
        root = ("dict", keyed(
            Pages=self.some(self.page, 3, 2), Styles=("dict", keyed(**styles)), Fonts=("dict", keyed(**fonts)),
            Shapes=("dict", keyed(**{word: self.shape(1) for word in "ABC"})), Files=self.value(1), Open=self.value(1),
        ))
        draws = (self.value, self.block, self.shape, self.page)
        objects = [(at, self.source.choice(draws)(2)) for at in range(2, self.last + 1)]
        return ((1, root), *objects), 1
