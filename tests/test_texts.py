import unittest

from stillroom.digits import to_hex
from stillroom.fonts import write_font
from stillroom.pages import lay_out
from layouts import (
    BASE, PAGE_BOX, act, acts_of, book, book_with, box_mark, check_costs, corners, marks_of, page_of, pages_of,
    sealed, sealed_mark, stream_of,
)

# Signs of the plain font whose marks are one small box, and where its first corner stands.
FIRSTS = {"!": (0, 0), "\"": (4, 0), "$": (8, 0), "(": (0, 4), "0": (4, 4), "@": (8, 4)}


def rune(x, y, sign="!", size=4, colour=0):
    """The mark of such a sign that stands at a place."""
    x0, y0 = FIRSTS[sign]
    x0, y0, x1, y1 = [part * size // 4 for part in (x0, y0, x0 + 4, y0 + 4)]
    return box_mark(x + x0, y + y0, x + x1, y + y1, colour)


def words(data, more=""):
    return f"<</Kind /Text /Text ({data}) {more}>>"


def styled(style, parent=""):
    return f"/Styles <</S <<{style}>> {parent}>>"


class Runs(unittest.TestCase):
    """Point 133."""

    def check(self, runs, marks, acts=(), objects="", root=""):
        block = f"<</Kind /Text /Runs {runs} /Text ($) /Style /S>>"
        page = page_of(block + sealed(), objects=objects, root=root)
        lines = 1 if marks else 0
        self.assertEqual(list(page[3]), marks + [sealed_mark(0, 24 * lines)])
        self.assertEqual(list(page[4]), [act("link", data) for data in acts])

    def test_without_runs(self):
        self.assertEqual(marks_of(words("!")), [rune(0, 0)])
        for text in ("none", "/!", "5", "[(!)]", "@99", "<</Text (!)>>"):
            self.assertEqual(marks_of(f"<</Kind /Text /Text {text}>>"), [])
        self.assertEqual(marks_of("<</Kind /Text /Text @2>>", objects="#2 (!)"), [rune(0, 0)])

    def test_runs_that_are_no_list(self):
        for runs in ("none", "5", "(!)", "/A", "<</Text (!)>>", "@99", "<<>>{1}!{}"):
            self.check(runs, [rune(0, 0, "$")])

    def test_an_empty_list(self):
        self.check("[]", [])

    def test_texts(self):
        self.check("[(!) (\")]", [rune(0, 0), rune(16, 0, "\"")])
        self.check("@2", [rune(0, 0)], objects="#2 [@3] #3 (!)")

    def test_dicts(self):
        self.check("[<</Text (!)>> <</Text (\") /Color 5>>]", [rune(0, 0), rune(16, 0, "\"", colour=5)])
        self.check("[@2]", [rune(0, 0, colour=7)], objects="#2 <</Text @3 /Color @4>> #3 (!) #4 7")
        for text in ("none", "/!", "5", "[(!)]", "@99"):
            self.check(f"[<</Text {text}>>]", [])

    def test_something_else(self):
        self.check("[5 (!) /A none true [(!)] @99 <</Text (!)>>{1}!{}]", [rune(0, 0)])

    def test_colours(self):
        for colour, found in (("0", 0), ("16777215", 16777215), ("-1", 9), ("16777216", 9), ("none", 9), ("(5)", 9)):
            self.check(f"[<</Text (!) /Color {colour}>>]", [rune(0, 0, colour=found)], root=styled("/Color 9"))
        self.check("[(!) <</Text (!)>>]", [rune(0, 0, colour=9), rune(16, 0, colour=9)], root=styled("/Color 9"))

    def test_links(self):
        self.check("[<</Text (!) /Link (a)>> (!) <</Link (b)>>]", [rune(0, 0), rune(16, 0)], ["a", "b"])
        self.check("[<</Text (!) /Link ()>>]", [rune(0, 0)], [""])
        self.check("[<</Text (!) /Link @2>>]", [rune(0, 0)], ["c"], objects="#2 (c)")
        for link in ("/a", "none", "5", "[(a)]", "@99", "<</Do (a)>>", "true"):
            self.check(f"[<</Text (!) /Link {link}>>]", [rune(0, 0)])
        # Only a dict among the runs has links.
        self.assertEqual(acts_of("<</Kind /Text /Text (!) /Link (a)>>"), [])
        self.assertEqual(acts_of("<</Kind /Text /Runs [<</Link (a)>>{1}a{} [<</Link (a)>>]]>>"), [])

    def test_words_go_on_in_the_next_run(self):
        # One word of two runs does not fit behind the first word, though its first run would.
        runs = "[(!! !) <</Text (!) /Color 5>> (! \") ($ )]"
        self.assertEqual(marks_of(f"<</Kind /Text /Runs {runs}>>"), [
            rune(0, 0), rune(16, 0), rune(0, 24), rune(16, 24, colour=5), rune(32, 24), rune(0, 48, "\""),
            rune(16, 48, "$"),
        ])

    def test_costs(self):
        # Behind the costs of a page with one block: one for each run and one for each rune.
        check_costs(self, book_with("<</Kind /Text /Runs []>>"), BASE)
        check_costs(self, book_with("<</Kind /Text>>"), BASE + 1)
        check_costs(self, book_with(words("   ")), BASE + 4)
        check_costs(self, book_with("<</Kind /Text /Runs [( ) 5 <<>> <</Text (  )>>]>>"), BASE + 4 + 2 + 1 + 3)

    def test_costs_of_outlines(self):
        # The outlines of the last rune must leave something.
        check_costs(self, book_with(words("!")), BASE + 2 + 4, reader=True)
        check_costs(self, book_with(words("! A")), BASE + 4 + 4 + 8, reader=True)
        check_costs(self, book_with(words("!") + sealed()), BASE + 2 + 4 + 2)
        # Runes count, not bytes; a byte that is no rune counts as one.
        check_costs(self, book_with("<</Kind /Text /Text <c3a4ff>>>"), BASE + 3 + 8 + 8, reader=True)

    def test_outlines_that_leave_nothing(self):
        # With exactly the work for the outlines the layout ends, though nothing else costs.
        cost = BASE + 2 + 4
        self.assertEqual(lay_out(book_with(words("!")), cost), ([], 0))
        self.assertEqual(len(lay_out(book_with(words("!")), cost + 1)[0]), 1)


class Lines(unittest.TestCase):
    """Points 134 and 135; 16 units are the advance of each sign, 8 that of a space."""

    def check(self, data, *marks, root=""):
        self.assertEqual(marks_of(words(data, "/Style /S"), root=root), list(marks))

    def test_no_words(self):
        for data in ("", " ", "     "):
            self.check(data)

    def test_words_and_spaces(self):
        self.check("!", rune(0, 0))
        self.check("! !", rune(0, 0), rune(24, 0))
        self.check("  !   $ ", rune(0, 0), rune(24, 0, "$"))
        self.check("! !!", rune(0, 0), rune(24, 0), rune(40, 0))

    def test_a_line_that_is_full(self):
        # 64 units: three signs and two spaces fit exactly.
        self.check("! ! !", rune(0, 0), rune(24, 0), rune(48, 0))
        self.check("!! !!", rune(0, 0), rune(16, 0), rune(0, 24), rune(16, 24))
        self.check("! ! ! !", rune(0, 0), rune(24, 0), rune(48, 0), rune(0, 24))

    def test_one_word_wider_than_the_line(self):
        self.check("!!!!!$", *[rune(16 * at, 0) for at in range(4)], rune(0, 24), rune(16, 24, "$"))
        self.check("$ !!!!!$", rune(0, 0, "$"), *[rune(16 * at, 24) for at in range(4)], rune(0, 48), rune(16, 48, "$"))

    def test_a_narrow_page(self):
        for data in ("!$", "! $"):
            found = book(f"#1 <</Pages [<</Width 1 /Body [{words(data)}]>>]>>")
            clip = (0, 0, 4, 128)
            self.assertEqual(pages_of(found)[0][3], (
                box_mark(0, 0, 4, 4, 0, clip), box_mark(8, 24, 12, 28, 0, clip),
            ))

    def test_sizes(self):
        for size in range(1, 9):
            advance, high = 16 * size // 4, 6 * size
            count = 64 // advance
            marks = [rune(advance * (at % count), high * (at // count), size=size) for at in range(count + 1)]
            self.check("!" * (count + 1), *marks, root=styled(f"/Size {size}"))

    def test_spaces_of_sizes(self):
        for size in range(1, 7):
            self.check("! !", rune(0, 0, size=size), rune(6 * size, 0, size=size), root=styled(f"/Size {size}"))
        for size in (7, 8):
            self.check("! !", rune(0, 0, size=size), rune(0, 6 * size, size=size), root=styled(f"/Size {size}"))

    def test_other_runes(self):
        # A rune without a glyph has the glyph 0: two outlines. A newline is such a rune.
        for data in ("\\0a", "\\7f", "\\c3\\a4", "\\ff", "\\09"):
            found = marks_of(words(data))
            self.assertEqual(found, [("fill", PAGE_BOX, (corners(0, 0, 12, 20), corners(4, 4, 8, 16)), 0)])

    def test_aligns(self):
        # Two signs and a space are 40 units: 24 are left.
        for align, x in (("/Left", 0), ("/Middle", 12), ("/Right", 24), ("/Top", 0), ("(Right)", 0)):
            self.check("! !", rune(x, 0), rune(x + 24, 0), root=styled(f"/Align {align}"))

    def test_each_line_has_its_own_place(self):
        self.check("!!! !", rune(16, 0), rune(32, 0), rune(48, 0), rune(48, 24), root=styled("/Align /Right"))
        self.check("!!! !", rune(8, 0), rune(24, 0), rune(40, 0), rune(24, 24), root=styled("/Align /Middle"))

    def test_half_of_an_odd_number(self):
        # A sign with the advance 9 leaves 55 units.
        data = to_hex(write_font((((9, (("move", 0, 0),)),), ((33, 33, 0),))))
        fonts = "/Fonts <</F <</Filter /Hex>>{%d}%s{}>>" % (len(data), bytes(data).decode())
        root = styled("/Align /Middle /Font /F") + fonts
        self.assertEqual(marks_of(words("!", "/Style /S"), root=root), [("fill", PAGE_BOX, (((27, 0),),), 0)])

    def test_indents(self):
        for indent, x in (("0", 0), ("1", 4), ("5", 20), ("-1", 0), ("none", 0)):
            self.check("!", rune(x, 0), root=styled(f"/Indent {indent}"))
        # 64 - 4 * 12 are 16 units for a line.
        self.check("!!", rune(48, 0), rune(48, 24), root=styled("/Indent 12"))
        self.check("! !", rune(44, 0), rune(44, 24), root=styled("/Indent 11"))
        self.check("! !", rune(24, 0), rune(48, 0), root=styled("/Indent 6"))

    def test_indents_and_aligns(self):
        self.check("!", rune(48, 0), root=styled("/Indent 5 /Align /Right"))
        self.check("!", rune(20 + 14, 0), root=styled("/Indent 5 /Align /Middle"))

    def test_a_line_wider_than_its_width(self):
        # Indents of 13 and more leave less than a sign needs.
        for indent in (13, 16, 64):
            for align in ("Left", "Middle", "Right"):
                root = styled(f"/Indent {indent} /Align /{align}")
                self.check("!$", rune(4 * indent, 0), rune(4 * indent, 24, "$"), root=root)

    def test_a_width_of_at_least_1(self):
        # Without an advance a rune stands at the end of a width of 1, at the right side.
        data = to_hex(write_font((((0, (("move", 0, 0),)),), ())))
        fonts = "/Fonts <</F <</Filter /Hex>>{%d}%s{}>>" % (len(data), bytes(data).decode())
        for indent, x in ((64, 257), (17, 69), (16, 65), (15, 64)):
            root = styled(f"/Align /Right /Font /F /Indent {indent}") + fonts
            self.assertEqual(marks_of(words("!", "/Style /S"), root=root), [("fill", PAGE_BOX, (((x, 0),),), 0)])

    def test_within_a_box(self):
        body = sealed() + f"<</Kind /Box /Pad 2 /Blocks [{words('! !!', '/Style /S')}]>>"
        self.assertEqual(marks_of(body, root=styled("/Align /Right")), [
            sealed_mark(0, 0), rune(40, 12), rune(24, 36), rune(40, 36),
        ])


class Backs(unittest.TestCase):
    def test_with_and_without_lines(self):
        root = styled("/Back 5")
        self.assertEqual(marks_of(words("!", "/Style /S"), root=root), [box_mark(0, 0, 64, 24, 5), rune(0, 0)])
        for data in ("", "   "):
            self.assertEqual(marks_of(words(data, "/Style /S"), root=root), [])
        self.assertEqual(marks_of(words("!!!!!", "/Style /S"), root=root)[0], box_mark(0, 0, 64, 48, 5))

    def test_no_back(self):
        for back in ("-1", "16777216", "none"):
            self.assertEqual(marks_of(words("!", "/Style /S"), root=styled(f"/Back {back}")), [rune(0, 0)])
        self.assertEqual(marks_of(words("!", "/Style /S /Back 5")), [rune(0, 0)])

    def test_an_indent_does_not_move_it(self):
        root = styled("/Back 5 /Indent 3 /Align /Right /Gap 7 /Size 2")
        body = f"<</Kind /Box /Pad 1 /Blocks [{words('!', '/Style /S')}]>>"
        self.assertEqual(marks_of(body, root=root), [box_mark(4, 4, 60, 16, 5), rune(52, 4, size=2)])

    def test_gaps(self):
        for gap, units in (("0", 0), ("1", 1), ("64", 64), ("65", 64), ("-1", 0), ("none", 0)):
            root = styled(f"/Gap {gap}")
            for data, height in (("!", 24), ("", 0), ("!!!!!", 48)):
                found = marks_of(words(data, "/Style /S") + sealed(), root=root)
                self.assertEqual(found[-1], sealed_mark(0, height + units))

    def test_styles_of_properties(self):
        root = styled("/Parent /P /Size 2", "/P <</Size 8 /Color 3 /Indent 2>>")
        self.assertEqual(marks_of(words("!", "/Style /S"), root=root), [rune(8, 0, size=2, colour=3)])
        self.assertEqual(marks_of(words("!", "/Style /P"), root=root), [rune(8, 0, size=8, colour=3)])


class Fields(unittest.TestCase):
    def test_a_field(self):
        body = "<</Kind /Field /Send (a) /Value (!$) /Style /S>>" + sealed()
        self.assertEqual(acts_of(body), [act("form", "a")])
        self.assertEqual(marks_of(body, root=styled("/Color 3 /Gap 2")), [
            rune(0, 0, colour=3), rune(16, 0, "$", colour=3), sealed_mark(0, 26),
        ])

    def test_without_send(self):
        for send in ("", "/Send none", "/Send /a", "/Send 5", "/Send [(a)]", "/Send @99"):
            self.assertEqual(acts_of(f"<</Kind /Field {send}>>"), [act("form")])
        self.assertEqual(acts_of("<</Kind /Field /Send @2>>", objects="#2 (a)"), [act("form", "a")])

    def test_without_value(self):
        for value in ("", "/Value none", "/Value /a", "/Value 5", "/Value [(a)]", "/Text (!)", "/Runs [(!)]"):
            self.assertEqual(marks_of(f"<</Kind /Field {value}>>" + sealed()), [sealed_mark(0, 0)])

    def test_its_runs_mean_nothing(self):
        body = "<</Kind /Field /Value (!) /Runs [<</Text ($) /Link (a)>>]>>"
        self.assertEqual(marks_of(body), [rune(0, 0)])
        self.assertEqual(acts_of(body), [act("form")])

    def test_costs(self):
        check_costs(self, book_with("<</Kind /Field /Send (abc)>>"), BASE + 1)
        check_costs(self, book_with("<</Kind /Field /Value ( ! )>>"), BASE + 4 + 4, reader=True)
        check_costs(self, book_with("<</Kind /Field /Runs [1 2 3]>>"), BASE + 1)


# A font whose glyph of a is one point, of b none, and which has the advances 10, 20 and -5.
GLYPHS = ((7, (("move", 1, 2),)), (10, (("move", 3, 5),)), (20, ()), (-5, (("move", 8, 8), ("line", 9, 9))))
FONT = write_font((GLYPHS, ((97, 99, 1), (32, 32, 2))))


class Fonts(unittest.TestCase):
    """Point 130."""

    def root(self, name="/F", keys="", data=FONT):
        return styled(f"/Font {name}") + f" /Fonts <</F {stream_of(data, keys)} /G {stream_of(data)}>>"

    def points(self, data, root):
        """The points of marks of one point or line each."""
        return [mark[2][0] for mark in marks_of(words(data, "/Style /S"), root=root)]

    def test_a_font(self):
        self.assertEqual(self.points("a", self.root()), [((3, 5),)])
        # b is 20 wide and has no outlines; so has the space. ~ is the glyph 0.
        self.assertEqual(self.points("aba a~", self.root()), [((3, 5),), ((33, 5),), ((3, 29),), ((11, 26),)])
        self.assertEqual(self.points("a a", self.root()), [((3, 5),), ((33, 5),)])

    def test_negative_advances_count_as_0(self):
        self.assertEqual(self.points("cca", self.root()), [((8, 8), (9, 9)), ((8, 8), (9, 9)), ((3, 5),)])

    def test_sizes(self):
        root = self.root().replace("/Font", "/Size 3 /Font")
        # Advances of 10 * 3 / 4 = 7, points scaled by 3 / 4.
        self.assertEqual(self.points("aa", root), [((2, 3),), ((9, 3),)])

    def test_no_font(self):
        plain = ((0, 0), (4, 0), (4, 4), (0, 4))
        for name in ("/", "/H", "none", "(F)", "5"):
            self.assertEqual(self.points("!", self.root(name)), [plain])
        self.assertEqual(self.points("!", styled("/Font /F")), [plain])
        self.assertEqual(self.points("!", styled("/Font /F") + "/Fonts 5"), [plain])
        self.assertEqual(self.points("!", ""), [plain])

    def test_an_empty_name_is_not_looked_up(self):
        root = styled("/Font /") + f"/Fonts <</ {stream_of(FONT)}>>"
        self.assertEqual(self.points("!", root), [((0, 0), (4, 0), (4, 4), (0, 4))])

    def test_no_stream_and_no_font(self):
        plain = ((0, 0), (4, 0), (4, 4), (0, 4))
        for value in ("5", "none", "<<>>", "(FNT1)", "@99", "[5]", stream_of(b"FNT"), stream_of(b"FNT1\n"),
                      stream_of(FONT, "/Filter /Foo"), stream_of(b"FNT1\n\0\0\0")):
            self.assertEqual(self.points("!", styled("/Font /F") + f"/Fonts <</F {value}>>"), [plain])

    def test_fonts_behind_references(self):
        root = styled("/Font @2") + "/Fonts @3"
        objects = f"#2 /F #3 <</F @4>> #4 @5 #5 {stream_of(to_hex(FONT), '/Filter @6')} #6 /Hex"
        found = book_with(words("a", "/Style /S"), root=root, objects=objects)
        self.assertEqual([mark[2] for mark in pages_of(found)[0][3]], [(((3, 5),),)])
        # The stream is looked at without a cost; its filter is followed for 1.
        check_costs(self, found, BASE + 1 + 2 * len(FONT) + len(FONT) + 2 + 1, reader=True)

    def test_a_font_costs_once(self):
        body = words("  ", "/Style /S")
        check_costs(self, book_with(body, root=self.root()), BASE + len(FONT) + 3)
        check_costs(self, book_with(body + body, root=self.root()), BASE + len(FONT) + 3 + 2 + 3)
        check_costs(self, book_with(body + "<</Kind /Field /Style /S>>", root=self.root()),
                    BASE + len(FONT) + 3 + 2 + 1)

    def test_a_font_costs_once_in_all_pages(self):
        page = f"<</Body [{words('', '/Style /S')}]>>"
        found = book(f"#1 <</Pages [{page * 3}] {self.root()}>>")
        # The next layout of the same book pays for it again.
        for _ in range(2):
            check_costs(self, found, 3 + 1 + 1 + 1 + len(FONT) + 1, 4, 4)

    def test_two_names_of_the_same_font(self):
        root = "/Styles <</S <</Font /F>> /T <</Font /G>>>>" + self.root().replace(styled("/Font /F"), "")
        body = words("", "/Style /S") + words("", "/Style /T") + words("", "/Style /S")
        check_costs(self, book_with(body, root=root), 2 + 3 + 3 + 2 * len(FONT) + 3)

    def test_a_font_that_failed_is_known(self):
        broken = list(FONT)[:8]
        root = self.root(data=broken)
        body = words("", "/Style /S")
        check_costs(self, book_with(body * 2, root=root), 2 + 2 + 2 + len(broken) + 2)
        # A stream with a filter that fails costs what following it costs.
        root = styled("/Font /F") + f"/Fonts <</F {stream_of(FONT, '/Filter [@2 /Foo]')}>>"
        check_costs(self, book_with(body * 2, root=root, objects="#2 /Hex"), 2 + 2 + 2 + 1 + 2)

    def test_a_font_that_is_not_there_costs_nothing(self):
        body = words("", "/Style /S")
        check_costs(self, book_with(body * 2, root=styled("/Font /F")), 2 + 2 + 2 + 2)

    def test_fields_have_fonts(self):
        marks = marks_of("<</Kind /Field /Value (a) /Style /S>>", root=self.root())
        self.assertEqual([mark[2] for mark in marks], [(((3, 5),),)])

    def test_only_texts_and_fields_reach_fonts(self):
        kinds = "Box Table Picture Sealed Script Fetch Drawing".split()
        body = "".join(f"<</Kind /{kind} /Style /S>>" for kind in kinds)
        check_costs(self, book_with(body, root=self.root()), 2 + 7 + 7)

    def test_a_font_is_reached_before_the_runs(self):
        # Exactly the work up to the font: reading it leaves nothing, and the layout ends.
        page = f"<</Body [{words('', '/Style /S')}]>>"
        found = book(f"#1 <</Pages [<<>> {page}] {self.root()}>>")
        cost = 2 + 1 + 1 + 1 + 1 + len(FONT)
        for work in (cost - 1, cost):
            self.assertEqual(lay_out(found, work), ([(32, 32, 16777215, (), ())], 0))
        self.assertEqual(len(lay_out(found, cost + 1)[0]), 2)

    def test_a_reader_that_is_reached_with_nothing_left(self):
        # A name that is no font is read, too, though this costs nothing; no name is not read.
        for style, count in (("/Font /F", 0), ("/Font /", 1), ("", 1)):
            body = "<</Kind /Text /Runs [] /Style /S>>"
            found = book_with(body, root=styled(style))
            self.assertEqual(lay_out(found, BASE)[0], pages_of(found)[:count])

    def test_a_glyph_without_steps_is_read_too(self):
        # All the work is spent before its outlines, which cost nothing, but leave nothing.
        found = book_with(words("b", "/Style /S"), root=self.root())
        cost = BASE + len(FONT) + 2
        self.assertEqual(lay_out(found, cost), ([], 0))
        self.assertEqual(len(lay_out(found, cost + 1)[0]), 1)

    def test_glyphs_that_fail(self):
        # The outlines of c cost 2: with less than that the layout ends.
        found = book_with(words("ac", "/Style /S") + sealed(), root=self.root())
        check_costs(self, found, BASE + len(FONT) + 3 + 1 + 2 + 2)

    def test_lookups_of_the_space(self):
        # Without a glyph of its own the space has the advance of the glyph 0.
        data = write_font((GLYPHS, ((97, 99, 1),)))
        self.assertEqual(self.points("a a", self.root(data=data)), [((3, 5),), ((20, 5),)])


if __name__ == "__main__":
    unittest.main()
