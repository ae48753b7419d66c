import unittest

from stillroom.cells import read_sheet
from stillroom.crates import open_crate, read_content
from stillroom.errors import Malformed
from stillroom.filling import paint
from stillroom.films import film_pages
from stillroom.grid import is_grid
from stillroom.measure import budget
from stillroom.pages import lay_out
from stillroom.pictures import read_picture
from stillroom.reading import read_book
from stillroom.sheets import sheet_acts, sheet_pages
from stillroom.showing import acts, alike, depth, look_at, show
from stillroom.signs import kind_of
from stillroom.stills import read_still, write_still
from documents import (
    WHITE, all_kinds, crate, crate_of, drawn_document, entry, folio, folio_of, moving, picture, sheet, still,
)
from support import check_copies, drawn

ENOUGH = 10 ** 9


def dots(*colours):
    """Pages of one cell each."""
    return [(1, 1, [colour]) for colour in colours]


def act(kind, data):
    return kind, tuple(data.encode())


def plain_look(data, left, level):
    """Point 172, word by word."""
    kind = kind_of(data)
    pages, done, inside = [], [], 0
    if kind == "still":
        try:
            pages = read_still(data)
        except Malformed:
            pass
    elif kind == "picture":
        grid, left = read_picture(data, left)
        if grid is not None:
            pages = [grid[:2] + ([cell if cell >= 0 else WHITE for cell in grid[2]],)]
    elif kind == "film":
        pages, left = film_pages(data, left)
    elif kind == "sheet":
        found, left = read_sheet(data, left)
        if found is not None:
            done, left = sheet_acts(found, left)
            pages, left = sheet_pages(found, left)
    elif kind == "folio":
        book, left = read_book(data, left)
        laid = []
        if book is not None:
            laid, left = lay_out(book, left)
        for page in laid:
            done += page[4]
            if len(pages) < 8 and left > 0:
                grid, left = paint(page, left)
                pages.append(grid)
    elif kind == "crate" and level < 4:
        inside = 1
        entries, left = open_crate(data, left)
        for part in sorted(entries, key=lambda found: found[0]):
            if left > 0 and len(pages) < 8:
                content, left = read_content(part, left)
                if content is not None:
                    found = plain_look(content, left, level + 1)
                    pages, done = (pages + found[0])[:8], done + found[1]
                    inside, left = max(inside, 1 + found[2]), found[3]
    return pages, done, inside, left


class Looking(unittest.TestCase):
    def look(self, data, level=0):
        """What is told, and what it costs."""
        pages, done, inside, left = look_at(data, ENOUGH, level)
        return pages, done, inside, ENOUGH - left

    def check(self, data, pages, done=(), inside=0, cost=None, level=0):
        expected = (pages, list(done), inside)
        found = self.look(data, level)
        self.assertEqual(found[:3], expected)
        if cost is not None:
            self.assertEqual(found[3], cost)
        self.check_every_work(data, found[3], level)

    def check_every_work(self, data, cost, level=0):
        """Each amount of work from 0 up (those in the middle are left out where there are many)."""
        works = list(range(min(cost + 3, 400))) + list(range(max(400, cost - 40), cost + 3))
        for work in works + list(range(400, cost, 1 + cost // 100)):
            found = look_at(data, work, level)
            self.assertEqual(found, plain_look(data, work, level), work)
            if found[3] > 0:
                # Once some is left, more work changes nothing.
                self.assertEqual(look_at(data, work + 1000, level), found[:3] + (found[3] + 1000,))

    def check_nothing(self, data, cost=0, inside=0):
        self.check(data, [], (), inside, cost)


class Stills(Looking):
    def test_whole(self):
        self.check(still(), [], cost=0)
        self.check(still(5, 6), dots(5, 6), cost=0)
        self.check(still(*range(8)), dots(*range(8)), cost=0)

    def test_without_work(self):
        self.assertEqual(look_at(still(5), 0, 0), (dots(5), [], 0, 0))

    def test_broken_off_and_with_bytes_behind_it(self):
        data = still(5, 6)
        for end in range(8, len(data)):
            self.assertEqual(self.look(data[:end]), ([], [], 0, 0))
        self.check_nothing(data + [10])
        self.check_nothing(data + data)

    def test_on_every_level(self):
        for level in range(5):
            self.check(still(5), dots(5), level=level)


class Pictures(Looking):
    def test_whole(self):
        self.check(picture(1, 2, 3), [(3, 1, [1, 2, 3])], cost=4)

    def test_cells_that_are_none(self):
        self.check(picture(-1, 2, -1), [(3, 1, [WHITE, 2, WHITE])], cost=4)

    def test_broken_off(self):
        data = picture(1, 2, 3)
        self.check(data[:-1], [(3, 1, [1, 2, WHITE])], cost=4)
        self.check(data[:11], [(3, 1, [WHITE] * 3)], cost=4)
        for end in (6, 10):
            self.check_nothing(data[:end])

    def test_with_bytes_behind_it(self):
        self.check(picture(1, 2, 3) + [1, 2], [(3, 1, [1, 2, 3])], cost=4)

    def test_too_little_work(self):
        self.assertEqual(look_at(picture(1, 2, 3), 3, 0), ([], [], 0, 0))


class Films(Looking):
    def test_whole(self):
        data = moving(1, 2, 3)
        self.check(data, dots(1, 2, 3), cost=len(data) + 3 * 2 + 3 * 2)

    def test_broken_off(self):
        data = moving(1, 2, 3)
        self.check(data[:-5], dots(1, 2, 3))
        self.check_nothing(data[:5])
        for end in range(5, len(data)):
            self.check_every_work(data[:end], len(data) + 12)

    def test_that_ends_for_lack_of_work(self):
        data = moving(1, 2, 3)
        cost = len(data) + 3 * 2
        for work, count, left in ((cost - 1, 0, 0), (cost, 0, 0), (cost + 1, 0, 0), (cost + 2, 1, 0), (cost + 3, 1, 0),
                                  (cost + 4, 2, 0), (cost + 6, 3, 0), (cost + 7, 3, 1)):
            self.assertEqual(look_at(data, work, 0), (dots(1, 2, 3)[:count], [], 0, left))

    def test_more_than_eight_frames(self):
        self.check(moving(*range(12)), dots(*range(8)))


class Sheets(Looking):
    def test_whole(self):
        data = sheet('A1 =LINK("a")\nE5 5\nA2 =FETCH("b")\n')
        found, _ = read_sheet(data, ENOUGH)
        self.check(data, sheet_pages(found, ENOUGH)[0], [act("link", "a"), act("fetch", "b")])
        pages_cost = ENOUGH - sheet_pages(found, ENOUGH)[1]
        self.assertEqual(self.look(data)[3], len(data) + 5 + pages_cost)

    def test_broken_off(self):
        self.check(sheet("A1 5\nE5"), show(sheet("A1 5\n")))
        self.check_nothing(sheet(""), cost=8)

    def test_acts_come_first(self):
        # With too little work for the values, or for the pages, the acts are there.
        data = sheet('A1 =LINK("a")\n')
        self.assertEqual(look_at(data, len(data) + 2, 0), ([], [act("link", "a")], 0, 0))
        self.assertEqual(look_at(data, len(data) + 2 + 3 + 500, 0), ([], [act("link", "a")], 0, 0))
        self.assertEqual(look_at(data, len(data) + 1, 0), ([], [], 0, 0))
        self.assertEqual(look_at(data, len(data) - 1, 0), ([], [], 0, 0))


class Folios(Looking):
    def test_whole(self):
        data = folio_of(5, 6, more="/Open (o)", acts=("s",))
        # Reading; the list of pages, two pages, the list of blocks and a block; two cells.
        self.check(data, dots(5, 6), [act("open", "o"), act("script", "s")], cost=len(data) + 2 + 2 + 1 + 1 + 2)

    def test_no_pages(self):
        data = folio_of(more="/Open (o)")
        self.check_nothing(data, cost=len(data))
        self.check_nothing(folio("nothing"), cost=len(folio("nothing")))

    def test_broken_off(self):
        data = folio_of(5, 6)
        for end in range(4, len(data)):
            self.check_every_work(data[:end], 60)
        self.check(data[:-6], dots(5, 6))

    def test_with_bytes_around_it(self):
        data = folio_of(5, 6)
        self.check([0] * 100 + data + [255] * 100, dots(5, 6))
        self.check([0] * 1023 + data, dots(5, 6))
        self.check_nothing([0] * 1024 + data)

    def test_more_than_eight_pages(self):
        for count in (7, 8, 9, 12):
            data = folio_of(*range(count), acts=("s", "t"))
            self.check(data, dots(*range(min(count, 8))), [act("script", "s"), act("script", "t")])
            # Pages behind the eighth one are laid out, but not painted.
            self.assertEqual(self.look(data)[3], len(data) + 2 * count + 4 + min(count, 8))

    def test_a_page_that_is_painted_only_in_part(self):
        block = "<</Kind /Sealed /Width 1 /Height 1>>"
        data = folio(f"#1 <</Pages [<</Width 1 /Height 2 /Back 3 /Body [{block}{block}]>> <</Width 1 /Height 1>>]>>")
        whole = [(1, 2, [8421504, 8421504]), (1, 1, [WHITE])]
        before = len(data) + 2 + 1 + 2 + 2 + 1
        # Two cells, two marks that cost 1 + 2 * 4 each, and one cell.
        self.check(data, whole, cost=before + 2 + 9 + 9 + 1)
        for more, pages, left in (
            (0, [], 0), (1, [(1, 2, [3, 3])], 0), (2, [(1, 2, [3, 3])], 0), (3, [(1, 2, [3, 3])], 0),
            (10, [(1, 2, [3, 3])], 0), (11, [(1, 2, [8421504, 3])], 0), (19, [(1, 2, [8421504, 3])], 0),
            (20, whole[:1], 0), (21, whole, 0), (22, whole, 1),
        ):
            self.assertEqual(look_at(data, before + more, 0), (pages, [], 0, left), more)

    def test_acts_of_pages_that_are_not_painted(self):
        data = folio_of(5, 6, acts=("s",))
        before = len(data) + 2 + 2 + 1 + 1
        self.assertEqual(look_at(data, before, 0), ([], [act("script", "s")], 0, 0))
        self.assertEqual(look_at(data, before - 1, 0), ([], [], 0, 0))
        self.assertEqual(look_at(data, before + 1, 0), (dots(5), [act("script", "s")], 0, 0))


class Crates(Looking):
    def test_no_entries(self):
        data = crate()
        self.check(data, [], inside=1, cost=1 + len(data))
        self.check(list(b"CRT1"), [], inside=1, cost=5)

    def test_one_entry(self):
        inner = still(5)
        data = crate_of(a=inner)
        self.check(data, dots(5), inside=1, cost=1 + len(data) + 1 + 2 * len(inner))

    def test_entries_in_the_order_of_their_names(self):
        data = crate_of(b=still(2), a=still(1), c=still(3))
        self.check(data, dots(1, 2, 3), inside=1)
        names = ["b", "a", "a/b", "a.b", "ab", "10", "9", "a-b", "aa"]
        data = crate(*[entry(name, still(at)) for at, name in enumerate(names)])
        order = sorted(names)
        self.assertEqual(order, ["10", "9", "a", "a-b", "a.b", "a/b", "aa", "ab", "b"])
        self.check(data, dots(*[names.index(name) for name in order[:8]]), inside=1)

    def test_acts_and_pages(self):
        data = crate_of(c=folio_of(7, acts=("y",)), a=folio_of(5, acts=("x",)), b=sheet('A1 =LINK("z")\n'))
        pages = dots(5) + show(sheet('A1 =LINK("z")\n')) + dots(7)
        self.check(data, pages, [act("script", "x"), act("link", "z"), act("script", "y")], inside=1)

    def test_contents_whose_reading_fails(self):
        for broken in (entry("b", still(9), size=3), entry("b", still(9), total=3), entry("b", still(9), method=5)):
            data = crate(entry("a", still(1)), broken, entry("c", still(3)))
            self.check(data, dots(1, 3), inside=1)

    def test_contents_that_are_nothing(self):
        self.check(crate_of(a=[], b=[1, 2, 3]), [], inside=1)

    def test_methods(self):
        for method in range(5):
            data = crate(entry("a", folio_of(5, acts=("x",)), method), entry("b", still(6), method))
            self.check(data, dots(5, 6), [act("script", "x")], inside=1)

    def test_a_broken_crate(self):
        data = crate_of(a=still(1), b=still(2))
        self.check(data[:-1], dots(1, 2), inside=1)
        self.check([0] * 50 + data + [0] * 50, dots(1, 2), inside=1)
        # Without the last data the second still is none.
        self.check(data[:2 * 21 + 2 * len(still(1)) - 1], dots(1), inside=1)

    def test_too_little_work(self):
        inner = still(5)
        data = crate_of(a=inner)
        opening = 1 + len(data)
        for work in range(opening):
            self.assertEqual(look_at(data, work, 0), ([], [], 1, 0))
        # Reading the content: 1, the data, and the content.
        for work in range(opening, opening + 1 + 2 * len(inner)):
            self.assertEqual(look_at(data, work, 0), ([], [], 1, 0))

    def test_a_content_whose_reading_has_left_nothing(self):
        inner = still(5)
        data = crate_of(a=inner, b=still(6))
        cost = 1 + len(data) + 1 + 2 * len(inner)
        # A still needs no work: so it is looked at, but the next entry is not taken.
        self.assertEqual(look_at(data, cost, 0), (dots(5), [], 1, 0))
        self.assertEqual(look_at(data, cost + 1, 0), (dots(5), [], 1, 0))
        # A crate within is looked at, too, though it cannot be opened: that is a depth.
        inner = crate_of(c=still(5))
        data = crate_of(a=inner, b=still(6))
        self.assertEqual(look_at(data, 1 + len(data) + 1 + 2 * len(inner), 0), ([], [], 2, 0))

    def test_eight_pages(self):
        # Reached within an entry, and at its end.
        first, second = still(*range(5)), still(*range(10, 16))
        self.check(crate_of(a=first, b=second), dots(0, 1, 2, 3, 4, 10, 11, 12), inside=1)
        self.check(crate_of(a=first, b=still(10, 11, 12), c=still(7)), dots(0, 1, 2, 3, 4, 10, 11, 12), inside=1)

    def test_entries_behind_eight_pages_are_not_taken(self):
        eight = still(*range(8))
        behind = folio_of(9, acts=("x",))
        data = crate_of(a=eight, b=behind)
        self.check(data, dots(*range(8)), inside=1, cost=1 + len(data) + 1 + 2 * len(eight))
        # All acts of the entry within which they are reached count.
        inner = folio_of(*range(7), acts=("y",))
        data = crate_of(a=still(1, 2), b=inner, c=behind)
        self.check(data, dots(1, 2, *range(6)), [act("script", "y")], inside=1)
        # Its depth counts, too, but not that of those behind it.
        deep = crate_of(x=crate_of(y=still(3)))
        self.check(crate_of(a=still(1, 2), b=crate_of(c=still(*range(7))), d=deep), dots(1, 2, *range(6)), inside=2)

    def test_seven_pages_and_more(self):
        self.check(crate_of(a=still(*range(7)), b=still(8, 9), c=still(10)), dots(*range(7), 8), inside=1)


class Levels(Looking):
    def nested(self, levels, inner=None):
        data = still(5) if inner is None else inner
        for at in range(levels):
            data = crate_of(**{f"n{at}": data})
        return data

    def test_depths(self):
        for levels in range(5):
            self.check(self.nested(levels), dots(5), inside=levels)

    def test_on_level_4_a_crate_is_nothing(self):
        for levels in (5, 6, 7):
            self.check(self.nested(levels), [], inside=4)
        self.check(self.nested(5, folio_of(5, acts=("x",))), [], inside=4)
        self.check(self.nested(4, folio_of(5, acts=("x",))), dots(5), [act("script", "x")], inside=4)
        for left in (0, 1, 1000):
            self.assertEqual(look_at(crate_of(a=still(5)), left, 4), ([], [], 0, left))

    def test_each_level(self):
        for level in range(5):
            for levels in range(6):
                room = 4 - level
                pages = dots(5) if levels <= room else []
                self.check(self.nested(levels), pages, inside=min(levels, room), level=level)

    def test_the_deepest_one_counts(self):
        one, two, three = self.nested(1), self.nested(2), self.nested(3)
        self.check(crate_of(a=one, b=two, c=still(5)), dots(5, 5, 5), inside=3)
        self.check(crate_of(a=two, b=one), dots(5, 5), inside=3)
        self.check(crate_of(a=three, b=[1]), dots(5), inside=4)
        self.check(crate_of(a=still(5), b=still(5)), dots(5, 5), inside=1)

    def test_a_crate_that_cannot_be_read_has_no_depth(self):
        data = crate(entry("a", self.nested(2), size=1), entry("b", still(5)))
        self.check(data, dots(5), inside=1)

    def test_crates_without_entries(self):
        self.check(crate_of(a=crate()), [], inside=2)
        self.check(crate_of(a=crate_of(b=crate_of(c=crate_of(d=crate())))), [], inside=4)


class Kinds(Looking):
    def test_lists_without_a_kind(self):
        for data in ([], [1, 2, 3], list(b"hello"), list(b"still 2\n"), [0] * 2000):
            self.check_nothing(data)

    def test_lists_of_several_kinds(self):
        folded, packed = folio_of(5), crate_of(a=still(6))
        # The sign that comes first counts.
        self.check(folded + packed, dots(5))
        self.check(packed + folded, dots(6), inside=1)
        # A crate without its sign among the first bytes is a folio first.
        self.check(folded + [0] * 2000 + packed, dots(5))
        self.check([0] * 2000 + folded + packed, dots(6), inside=1)
        # Any of the others comes before them.
        self.check(picture(7) + folded + packed, dots(7))
        self.check(sheet("A1 5\n") + packed, show(sheet("A1 5\n")))
        self.check(moving(8) + folded, dots(8))
        self.check_nothing(still(9) + folded)

    def test_a_folio_within_the_data_of_a_crate(self):
        # Both are possible: the crate begins before the folio.
        self.check(crate_of(a=folio_of(5)), dots(5), inside=1)
        # Of a crate whose first sign is broken, only its end is left.
        data = crate_of(a=folio_of(5))
        self.check([0] + data[1:], dots(5), inside=0)

    def test_every_kind(self):
        for kind, data in all_kinds().items():
            self.assertEqual(kind_of(data), kind)
            found = self.look(data)
            self.assertTrue(found[0])
            self.check(data, *found[:3])


class Bounds(Looking):
    def test_drawn_documents(self):
        source = drawn(77)
        for _ in range(300):
            data = drawn_document(source)
            allowed = budget(len(data))
            pages, done, inside, left = look_at(data, allowed, 0)
            self.assertEqual((pages, done, inside, left), plain_look(data, allowed, 0))
            self.assertTrue(0 <= left <= allowed)
            self.assertLessEqual(len(pages), 8)
            self.assertTrue(0 <= inside <= 4)
            for page in pages:
                self.assertTrue(is_grid(page) and -1 not in page[2])
            for kind, told in done:
                self.assertIn(kind, ("open", "file", "link", "form", "fetch", "script"))
                self.assertIsInstance(told, tuple)
            self.assertEqual((show(data), acts(data), depth(data)), (pages, done, inside))
            # A still is shown as its pages.
            self.assertEqual(show(write_still(pages)), pages)

    def test_drawn_amounts_of_work(self):
        source = drawn(78)
        for _ in range(150):
            data = drawn_document(source)
            level = source.randint(0, 4)
            for _ in range(5):
                work = source.randint(0, budget(len(data)))
                found = look_at(data, work, level)
                self.assertEqual(found, plain_look(data, work, level))
                self.assertTrue(0 <= found[3] <= work)
                if found[3] > 0:
                    self.assertEqual(look_at(data, work + 77, level), found[:3] + (found[3] + 77,))


class Showing(unittest.TestCase):
    def test_the_work_that_is_allowed(self):
        # Three pages of 64 times 64 cells cost more than a short folio may spend.
        page = "<</Width 64 /Height 64 /Back 3 /Body @2>>"
        data = folio(f"#1 <</Pages [{page * 3}]>> #2 []")
        allowed = budget(len(data))
        self.assertEqual(show(data), look_at(data, allowed, 0)[0])
        self.assertLess(allowed, len(data) + 3 * 4096)
        self.assertEqual(len(show(data)), 2)

    def test_each_part(self):
        for data in all_kinds().values():
            found = look_at(data, budget(len(data)), 0)
            self.assertEqual((show(data), acts(data), depth(data)), found[:3])

    def test_crates_in_crates(self):
        data = still(5)
        for levels in range(1, 7):
            data = crate_of(a=data)
            self.assertEqual((show(data), depth(data)), (dots(5) if levels <= 4 else [], min(levels, 4)))

    def test_alike(self):
        self.assertTrue(alike(still(5), folio_of(5)))
        self.assertTrue(alike(folio_of(5), folio_of(5, more="/Open (x)", acts=("y",))))
        self.assertTrue(alike(crate_of(a=still(5)), picture(5)))
        self.assertTrue(alike([], [1, 2, 3]))
        self.assertTrue(alike([], still()))
        self.assertFalse(alike(still(5), still(6)))
        self.assertFalse(alike(still(5), still(5, 5)))
        self.assertFalse(alike(still(5, 6), still(6, 5)))
        self.assertFalse(alike(picture(5, 5), still(5)))
        self.assertFalse(alike(still(5), []))

    def test_copies(self):
        for data in all_kinds().values():
            for function in (show, acts, depth):
                check_copies(self, function, data)
            check_copies(self, look_at, data, 5000, 0)
            check_copies(self, alike, data, still(5))


if __name__ == "__main__":
    unittest.main()
