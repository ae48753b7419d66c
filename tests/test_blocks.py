import unittest

from stillroom.digits import to_hex
from stillroom.pages import lay_out
from stillroom.pictures import write_picture
from layouts import (
    BASE, PAGE_BOX, act, acts_of, book, book_with, box_mark, check_costs, marks_of, page_of, pages_of, sealed,
    sealed_mark, stream_of,
)

GRID = (3, 2, [1, 2, 3, -1, 5, 6])
DATA = write_picture(GRID)
STREAM = stream_of(DATA)
FROM = "/From (a)"


def picture(more="", data=STREAM):
    return f"<</Kind /Picture /Data {data} {more}>>"


def image(x, y, width=3, height=2, grid=GRID):
    return "image", PAGE_BOX, grid, (x, y, x + 4 * width, y + 4 * height)


class Pictures(unittest.TestCase):
    def test_a_picture(self):
        self.assertEqual(marks_of(sealed() + picture() + sealed()), [
            sealed_mark(0, 0), image(0, 4), sealed_mark(0, 12),
        ])

    def test_sides(self):
        for side, found in (("1", 1), ("64", 64), ("0", 1), ("-1", 1), ("65", 64), ("@2", 9)):
            self.assertEqual(marks_of(picture(f"/Width {side}"), objects="#2 9"), [image(0, 0, width=found)])
            marks = marks_of(picture(f"/Height {side}") + sealed(), objects="#2 9")
            self.assertEqual(marks, [image(0, 0, height=found), sealed_mark(0, 4 * found)])
        for side in ("none", "(5)", "/A", "[5]", "@99"):
            self.assertEqual(marks_of(picture(f"/Width {side} /Height {side}")), [image(0, 0)])

    def test_aligns(self):
        for align, x in (("Left", 0), ("Middle", 26), ("Right", 52), ("Top", 0)):
            root = f"/Styles <</S <</Align /{align}>>>>"
            self.assertEqual(marks_of(picture("/Style /S"), root=root), [image(x, 0)])
            self.assertEqual(marks_of(picture(), root=root), [image(0, 0)])

    def test_half_of_the_room(self):
        # 16 cells less 3 are 52 units, less 16 are none.
        for width, x in ((1, 30), (2, 28), (15, 2), (16, 0)):
            root = "/Styles <</S <</Align /Middle>>>>"
            self.assertEqual(marks_of(picture(f"/Style /S /Width {width}"), root=root), [image(x, 0, width=width)])

    def test_an_image_wider_than_its_column(self):
        for align in ("Left", "Middle", "Right"):
            root = f"/Styles <</S <</Align /{align}>>>>"
            for width in (17, 64):
                self.assertEqual(marks_of(picture(f"/Style /S /Width {width}"), root=root), [image(0, 0, width=width)])

    def test_within_a_box(self):
        root = "/Styles <</S <</Align /Right /Indent 5 /Gap 5 /Back 3>>>>"
        marks = marks_of(f"<</Kind /Box /Pad 2 /Blocks [{picture('/Style /S')} {sealed()}]>>", root=root)
        self.assertEqual(marks, [image(44, 8), sealed_mark(8, 16)])

    def test_fetches(self):
        for source, data in (("(a)", ["a"]), ("()", [""]), ("@2", ["b"]), ("/a", []), ("none", []), ("5", []),
                             ("[(a)]", [])):
            acts = acts_of(picture(f"/From {source}"), objects="#2 (b)")
            self.assertEqual(acts, [act("fetch", part) for part in data])

    def check_fails(self, data, cost=0, objects=""):
        """The picture leaves no mark and has no height, but its act is there."""
        page = page_of(picture(FROM, data) + sealed(), objects=objects)
        self.assertEqual(page[3], (sealed_mark(0, 0),))
        self.assertEqual(page[4], (act("fetch", "a"),))
        check_costs(self, book_with(picture(FROM, data) + sealed(), objects=objects), BASE + 2 + cost)

    def test_no_stream(self):
        for data in ("none", "5", "(a)", "[]", "<<>>", "@99", "@2"):
            self.check_fails(data, objects="#2 @2")
        self.assertEqual(marks_of("<</Kind /Picture>>" + sealed()), [sealed_mark(0, 0)])

    def test_a_wrong_filter(self):
        self.check_fails(stream_of(DATA, "/Filter /Foo"))
        self.check_fails(stream_of(DATA, "/Filter [/Hex /Hex /Hex /Hex /Hex]"))
        self.check_fails(stream_of(DATA, "/Filter [@2 @3]"), 2, objects="#2 /Hex #3 5")

    def test_no_picture(self):
        self.check_fails(stream_of(b""))
        self.check_fails(stream_of(DATA[:10]))
        self.check_fails(stream_of([0] + DATA))
        self.check_fails(stream_of(DATA[:6] + [0] + DATA[7:]))
        self.check_fails(stream_of(DATA[:6] + [65] + DATA[7:]))
        self.check_fails(stream_of(b"5", "/Filter /Hex"), 1)

    def test_a_broken_picture(self):
        grid = (3, 2, [1, 2, 3, -1, 5, -1])
        self.assertEqual(marks_of(picture(data=stream_of(DATA[:-1]))), [image(0, 0, grid=grid)])

    def test_costs(self):
        # One for the picture, and one for each of its cells; behind it something must be left.
        check_costs(self, book_with(picture()), BASE + 7, reader=True)
        check_costs(self, book_with(picture() + sealed()), BASE + 7 + 2)
        check_costs(self, book_with(picture("/Width 64 /Height 64") + sealed()), BASE + 7 + 2)
        data = stream_of(to_hex(DATA), "/Filter @2")
        check_costs(self, book_with(picture(data=data) + sealed(), objects="#2 /Hex"), BASE + 1 + 2 * len(DATA) + 7 + 2)
        # The key is looked at without a cost.
        check_costs(self, book_with(picture(data="@2") + sealed(), objects=f"#2 @3 #3 {STREAM}"), BASE + 7 + 2)

    def test_a_stream_that_leaves_nothing(self):
        # It leaves exactly 0, or 0 because its filter needs more: the layout ends.
        data = stream_of(b"5", "/Filter /Hex")
        found = book(f"#1 <</Pages [<<>> <</Body [{picture(data=data)}]>>]>>")
        cost = 2 + 1 + 1 + 1 + 1
        for work in range(cost + 2):
            self.assertEqual(lay_out(found, work)[0], pages_of(found)[:work // 3][:1])
        self.assertEqual(lay_out(found, cost + 2), (pages_of(found), 1))

    def test_a_reader_that_is_reached_with_nothing_left(self):
        # Though a picture that is no stream costs nothing, reading it leaves nothing.
        found = book_with("<</Kind /Picture>>")
        self.assertEqual(lay_out(found, BASE), ([], 0))
        self.assertEqual(lay_out(found, BASE + 1), (pages_of(found), 1))


class Sealed(unittest.TestCase):
    def test_sides(self):
        self.assertEqual(marks_of("<</Kind /Sealed>>" + sealed()), [sealed_mark(0, 0, 8, 2), sealed_mark(0, 8)])
        for side, found in (("1", 1), ("64", 64), ("0", 1), ("65", 64), ("-7", 1), ("@2", 9)):
            marks = marks_of(f"<</Kind /Sealed /Width {side}>>", objects="#2 9")
            self.assertEqual(marks, [sealed_mark(0, 0, found, 2)])
            marks = marks_of(f"<</Kind /Sealed /Height {side}>>" + sealed(), objects="#2 9")
            self.assertEqual(marks, [sealed_mark(0, 0, 8, found), sealed_mark(0, 4 * found)])
        for side in ("none", "(5)", "@99", "true"):
            marks = marks_of(f"<</Kind /Sealed /Width {side} /Height {side}>>")
            self.assertEqual(marks, [sealed_mark(0, 0, 8, 2)])

    def test_styles_and_colours_mean_nothing(self):
        root = "/Styles <</S <</Align /Right /Back 3 /Color 3 /Indent 3 /Gap 3>>>>"
        body = "<</Kind /Sealed /Style /S /Color 5 /Back 5 /Text (a) /From (a)>>" + sealed()
        self.assertEqual(marks_of(body, root=root), [box_mark(0, 0, 32, 8, 8421504), sealed_mark(0, 8)])
        self.assertEqual(acts_of(body, root=root), [])

    def test_costs(self):
        check_costs(self, book_with(sealed()), BASE)


class Scripts(unittest.TestCase):
    def check(self, kind, key, other):
        for value, data in (("(ab)", "ab"), ("()", ""), ("/ab", ""), ("none", ""), ("5", ""), ("@2", "cd"),
                            ("@99", "")):
            body = f"<</Kind /{kind} /{key} {value} /{other} (x)>>" + sealed()
            self.assertEqual(acts_of(body, objects="#2 (cd)"), [act(kind.lower(), data)])
            self.assertEqual(marks_of(body), [sealed_mark(0, 0)])
        self.assertEqual(acts_of(f"<</Kind /{kind}>>"), [act(kind.lower())])
        check_costs(self, book_with(f"<</Kind /{kind} /{key} (abc)>>"), BASE)

    def test_scripts(self):
        self.check("Script", "Text", "From")

    def test_fetches(self):
        self.check("Fetch", "From", "Text")


if __name__ == "__main__":
    unittest.main()
