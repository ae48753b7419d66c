"""What a layout knows while it goes on: its book, its work, its fonts, the page's acts
(points 127, 128 and 130)."""

from stillroom.characters import codes
from stillroom.errors import StillroomError
from stillroom.fonts import lookup, outline, plain_font, read_font
from stillroom.looking import key_of, looked_at, root_of
from stillroom.measure import spend
from stillroom.streams import read_stream
from stillroom.styles import colour_of, number_of, style_of


class WorkEnded(StillroomError):
    """The layout ends, because there is not enough work left."""


class Layout:
    """The layout of one book."""

    def __init__(self, book, left):
        self.book = book
        self.root = root_of(book)
        self.left = left
        self.fonts = {}
        self.page_box = (0, 0, 0, 0)
        self.acts = []

    def begin_page(self, width, height):
        """Begins a page with these sides, in cells."""
        self.page_box = (0, 0, 4 * width, 4 * height)
        self.acts = []

    def add_act(self, kind, data):
        self.acts.append((kind, data))

    def page_acts(self):
        """The acts of the page that was begun last."""
        return tuple(self.acts)

    def cost(self, count):
        """Spends so much. Raises WorkEnded if it is too much."""
        left, enough = spend(self.left, count)
        if not enough:
            raise WorkEnded("a cost is too great")
        self.left = left

    def _leave(self, left):
        """Takes over what a reader left. Raises WorkEnded if that is 0."""
        if left == 0:
            raise WorkEnded("a reader has left nothing")
        self.left = left

    def named(self, value, name):
        """The key with this name, a tuple of bytes, of a value."""
        return key_of(self.book, value, name)

    def key(self, value, word):
        """The key with this name, a string, of a value."""
        return self.named(value, tuple(codes(word)))

    def number(self, value, word, bounds, other):
        """The number of a key, within the bounds (low, high)."""
        low, high = bounds
        return number_of(self.key(value, word), low, high, other)

    def colour(self, value, word, other):
        """The colour of a key."""
        return colour_of(self.key(value, word), other)

    def name(self, value, word):
        """The bytes of the name that a key is."""
        return _data_of(self.key(value, word), "name")

    def text(self, value, word):
        """The bytes of the text that a key is."""
        return _data_of(self.key(value, word), "text")

    def reached_list(self, value):
        """The items of a value that is looked at, if it is a list, and else no items."""
        if value[0] != "list":
            return []
        self.cost(len(value[1]))
        return [looked_at(self.book, item) for item in value[1]]

    def list_of(self, value, word):
        """The items of the list that a key is."""
        return self.reached_list(self.key(value, word))

    def style(self, block):
        """The style of a block (point 129)."""
        return style_of(self.book, self.name(block, "Style"))

    def stream(self, value):
        """The bytes of a stream, or None if reading fails."""
        data, left = read_stream(self.book, value, self.left)
        self._leave(left)
        return data

    def read(self, reader, data):
        """What a reader makes of a byte list."""
        found, left = reader(data, self.left)
        self._leave(left)
        return found

    def font(self, name):
        """The font of a name, which may be None."""
        if not name:
            return plain_font()
        if name not in self.fonts:
            self.fonts[name] = self._new_font(name)
        return self.fonts[name]

    def _new_font(self, name):
        data = self.stream(self.named(self.key(self.root, "Fonts"), name))
        font = None if data is None else self.read(read_font, data)
        return plain_font() if font is None else font

    def rune_outlines(self, font, rune):
        """The outlines of the glyph of a rune."""
        outlines, left = outline(font, lookup(font, rune), self.left)
        self._leave(left)
        return outlines


def _data_of(value, kind):
    """The bytes of a value of this kind; of any other value no bytes."""
    return value[1] if value[0] == kind else ()
