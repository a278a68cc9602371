"""The promises A1 to A5, all together: the calls used one upon the other, over intervals of all kinds."""

import itertools
import math
import unittest

from exactlutes.intervals import (
    add, is_interval, near, of, order, part, parts, print_text, read, sub, times, within,
)
from support import (
    INTERVALS, NO_INTERVALS, OCTAVE, UNISON, exact_distance, exact_parts, exact_side, opposite, ratio,
)

D_AND_WIDTH = tuple(itertools.product((1, 2, 3, 4, 6, 7, 12, 16, 23, 24), (1, 4, 30, 99)))


def spread_intervals(count):
    """Intervals of all sizes, the same at each run: each power follows from the one before it."""
    found = []
    state = 1
    while len(found) < count:
        for d, width in D_AND_WIDTH:
            powers = []
            for place in range(4):
                state = (state * 16807) % 2147483647
                # Some powers are 0, so that texts of fewer than four factors come too.
                powers.append(0 if state % 3 == 0 else state % (2 * width + 1) - width)
            x = powers + [d]
            if math.gcd(*x) == 1:
                found.append(x)
    return found[:count]


SPREAD = INTERVALS + spread_intervals(200)


def intervals_among(answers):
    """The intervals that these answers tell; the rest is none."""
    return [answer[1:] for answer in answers if answer[0] == 1]


def text_of(x):
    """The bytes of an interval's text, as read takes them."""
    return print_text(x)[1:]


class OneForm(unittest.TestCase):
    def check_one_form(self, x):
        self.assertEqual(is_interval(x), [1], x)
        self.assertEqual(of(*x), [1] + x)
        self.assertEqual(of(*[7 * number for number in x]), [1] + x)
        self.assertEqual(read(text_of(x)), [1] + x)
        self.assertEqual(order(x, x), [1])

    def test_what_each_call_answers_is_in_its_one_form(self):
        for x, y in zip(SPREAD, SPREAD[1:] + SPREAD[:1]):
            answers = [add(x, y), sub(x, y), sub(y, x), within(x)]
            answers += [times(n, x) for n in (-2, -1, 0, 1, 2, 3, 12)] + [part(n, x) for n in (1, 2, 3, 4, 12)]
            for told in [x] + intervals_among(answers):
                self.check_one_form(told)

    def test_different_lists_are_different_intervals(self):
        for x, y in itertools.product(SPREAD[:90], SPREAD[:90]):
            self.assertEqual(order(x, y) == [1], x == y, (x, y))
            self.assertEqual(print_text(x) == print_text(y), x == y, (x, y))
            self.assertEqual(sub(x, y) == [1] + UNISON, x == y, (x, y))

    def test_what_is_no_interval_is_none_for_every_call(self):
        for x in NO_INTERVALS:
            self.assertEqual(is_interval(x), [0])
            for answer in (add(x, OCTAVE), sub(OCTAVE, x), times(1, x), part(1, x), within(x)):
                self.assertEqual(answer, [0])
            for answer in (order(x, OCTAVE), parts(12, x), near(x, [OCTAVE]), near(OCTAVE, [x]), print_text(x)):
                self.assertEqual(answer, [-1])

    def test_a_text_that_is_none_has_one_fault(self):
        for x in SPREAD:
            text = text_of(x)
            # No other text tells x: neither more bytes nor fewer, nor two blanks in the place of one.
            for other in (text + [0x20], text + [0x2F], [0x20] + text, text + text, text + [0x5E]):
                told = read(other)
                self.assertEqual(told[0], 0)
                self.assertEqual(len(told), 2)
                self.assertTrue(0 <= told[1] <= len(other))
            for end in range(len(text)):
                told = read(text[:end])
                if told[0] == 1:
                    self.assertEqual(text_of(told[1:]), text[:end])
                else:
                    self.assertTrue(0 <= told[1] <= end)


class GroupInOrder(unittest.TestCase):
    def test_a_group(self):
        some = SPREAD[:20] + SPREAD[24:50]
        seen = 0
        for x, y in itertools.product(some, some):
            self.assertEqual(add(x, y), add(y, x))
            self.assertEqual(sub(x, y), add(x, opposite(y)))
            self.assertEqual(times(-1, y), sub(UNISON, y))
            if add(x, y)[0] == 1:
                both = add(x, y)[1:]
                self.assertEqual(sub(both, y), [1] + x)
                for z in some[::5]:
                    if add(y, z)[0] == 1:
                        seen += 1
                        self.assertEqual(add(both, z), add(x, add(y, z)[1:]))
        self.assertGreater(seen, 1000)

    def test_in_order(self):
        some = SPREAD[:20] + SPREAD[24:60]
        seen = 0
        for x, y in itertools.product(some, some):
            told = order(x, y)
            self.assertEqual(told, [1 + exact_side([p - q for p, q in zip(ratio(x), ratio(y))])])
            self.assertEqual(order(y, x), [2 - told[0]])
            self.assertEqual(order(opposite(y), opposite(x)), told)
            between = sub(x, y)
            if between[0] == 1:
                self.assertEqual(order(between[1:], UNISON), told)
            for z in some[::7]:
                if add(x, z)[0] == 1 and add(y, z)[0] == 1:
                    seen += 1
                    self.assertEqual(order(add(x, z)[1:], add(y, z)[1:]), told)
        self.assertGreater(seen, 1000)

    def test_the_wider_has_no_fewer_parts(self):
        for x, y in itertools.product(SPREAD[:60:2], SPREAD[:60:3]):
            if order(x, y) == [2]:
                self.assertGreaterEqual(parts(1200, x)[1], parts(1200, y)[1])


class Parts(unittest.TestCase):
    def test_as_many_parts_are_it_again(self):
        for x, n in itertools.product(SPREAD, list(range(1, 26)) + [48, 99]):
            one = part(n, x)
            many = times(n, x)
            if one[0] == 1:
                self.assertEqual(times(n, one[1:]), [1] + x)
            if many[0] == 1:
                self.assertEqual(part(n, many[1:]), [1] + x)

    def test_the_greatest_that_do_not_go_beyond(self):
        for x, n in itertools.product(SPREAD, (1, 7, 12, 100, 1200)):
            m = parts(n, x)[1]
            powers = [power * n for power in ratio(x)]
            self.assertGreaterEqual(exact_side([powers[0] - m] + powers[1:]), 0, (n, x))
            self.assertLess(exact_side([powers[0] - m - 1] + powers[1:]), 0, (n, x))

    def test_parts_of_octaves(self):
        for m, n in itertools.product(range(-99, 100, 3), range(1, 25)):
            x = of(m, 0, 0, 0, n)[1:]
            self.assertEqual(parts(n, x), [0, m])
            self.assertEqual(part(n, [m, 0, 0, 0, 1]), [1] + x)


class WithinAnOctave(unittest.TestCase):
    def test_it_differs_by_octaves_alone(self):
        seen = 0
        for x in SPREAD:
            octaves = parts(1, x)[1]
            self.assertEqual(octaves, exact_parts(1, x))
            low = within(x)
            self.assertEqual(low, of(x[0] - octaves * x[4], x[1], x[2], x[3], x[4]))
            if low[0] == 1:
                seen += 1
                self.assertEqual(parts(1, low[1:]), [0, 0])
                self.assertEqual(order(low[1:], OCTAVE), [0])
                self.assertNotEqual(order(low[1:], UNISON), [0])
                self.assertEqual(within(low[1:]), low)
                self.assertEqual(parts(1200, x), [0, parts(1200, low[1:])[1] + 1200 * octaves])
        self.assertGreater(seen, 100)


class Nearest(unittest.TestCase):
    def test_none_is_nearer(self):
        for start in range(len(SPREAD) - 12):
            x = SPREAD[start]
            others = SPREAD[start + 1:start + 12]
            place = near(x, others)[0]
            least = exact_distance(x, others[place])
            for number, y in enumerate(others):
                side = exact_side([p - q for p, q in zip(exact_distance(x, y), least)])
                self.assertGreaterEqual(side, 1 if number < place else 0, (x, y))
                self.assertEqual(near(x, [others[place], y]), [0])

    def test_as_order_tells_it_against_the_unison(self):
        above = [x for x in SPREAD if order(x, UNISON) == [2]]
        for x, y in itertools.product(above[::4], above[::5]):
            self.assertEqual(near(UNISON, [x, y]), [1 if order(x, y) == [2] else 0])
            self.assertEqual(near(UNISON, [opposite(x), y]), [1 if order(x, y) == [2] else 0])

    def test_x_itself_is_the_nearest(self):
        for x in SPREAD:
            self.assertEqual(near(x, SPREAD), [SPREAD.index(x)])


if __name__ == "__main__":
    unittest.main()
